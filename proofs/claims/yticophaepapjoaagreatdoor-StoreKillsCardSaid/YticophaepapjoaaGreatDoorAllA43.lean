/-
  SlgSegm, SlgFind, SlgScan: texts of mine, joined.
-/
import Derived.Test.YticophaepapjoaaGreatDoorAllA27
namespace Go.Proofs.YticophaepapjoaaGreatDoor
open Go Go.RowKit Go.Joins
def SegO (base sl f : Nat) (rs : List LRec) : World → Value → Prop := fun w v => ∃ A c, v = .agg #[.int .i64 (sl : Int), .int .i64 (f : Int), .slice A rs.length c] ∧ w.ownsRow base 3 1 (.slice A rs.length c) rs.length (endsC rs)
def SegR (text : List UInt8) : World → Value → Prop := fun w v => ∃ g c, v = .slice (some ⟨g, 0, none⟩) text.length c ∧ text.length ≤ c ∧ c ≤ maxLen ∧ Row w (some ⟨g, 0, none⟩) (fun _ => True) (bcells text)
def StZ (w1 : World) (b base sl f : Nat) (rs : List LRec) : Bool → World → Prop
 | false, w => w.heap[b]? = some (.cells #[.int .i64 0, .int .i64 0, .slice none 0 0] 179 (0, 0)) ∧ Kp w1 w
 | true, w => ∃ A c, w.heap[b]? = some (.cells #[.int .i64 (sl : Int), .int .i64 (f : Int), .slice A rs.length c] 179 (0, 0)) ∧ w.ownsRow base 3 1 (.slice A rs.length c) rs.length (endsC rs) ∧ Keeps (fun x => x ≠ b) w1 w
theorem StZ.keep {w1 w w' : World} {b base sl f : Nat} {rs : List LRec} {x : Bool} (h : Kp w w') (hs : StZ w1 b base sl f rs x w) : StZ w1 b base sl f rs x w' := by
 cases x
 ·exact ⟨(h.block b trivial (Array.getElem?_eq_some_iff.1 hs.1).1).trans hs.1, hs.2.trans h⟩
 ·obtain ⟨A, c, h1, h2, h3⟩ := hs
  exact ⟨A, c, (h.block b trivial (Array.getElem?_eq_some_iff.1 h1).1).trans h1, h.own h2 fun _ _ => trivial, h3.trans (h.mono fun _ _ _ => trivial)⟩
theorem StZ.kp {w1 w : World} {b base sl f : Nat} {rs : List LRec} (x : Bool) (hs : StZ w1 b base sl f rs x w) : Keeps (fun y => y ≠ b) w1 w := by
 cases x
 ·exact hs.2.mono fun _ _ _ => trivial
 ·obtain ⟨A, c, h1, h2, h3⟩ := hs
  exact h3
def VZ (q b9 base sl f : Nat) (rs : List LRec) (b4 : Nat) : Nat → World → Value → Prop
 | 0 => IsV (.int .i64 (sl : Int))
 | 1 => IsV (.pointer (some ⟨b9, 1, none⟩))
 | 2 => IsV (.int .i64 (f : Int))
 | 3 => IsV (.pointer (some ⟨q, 0, none⟩))
 | 4 => IsV (.agg #[.int .i64 (sl : Int), .int .i64 (f : Int), .slice none 0 0])
 | 5 => fun w v => SegR (strm rs) w v ∧ b4 < w.heap.size ∧ (∀ A n c, v = .slice A n c → ∀ a, A = some a → a.block ≠ b4)
 | 6 => fun w v => SegO base sl f rs w v ∧ b4 < base
 | 7 => fun _ _ => True
 | 8 => IsV (.bool true)
 | _ => fun _ _ => True
theorem VZ_mono {q b9 base sl f : Nat} {rs : List LRec} {b4 : Nat} (i : Nat) (w w' : World) (x : Value) (h : Keeps (fun y => y ≠ b4) w w') (hv : VZ q b9 base sl f rs b4 i w x) : VZ q b9 base sl f rs b4 i w' x := by
 match i, hv with
 | 0, hv => exact hv
 | 1, hv => exact hv
 | 2, hv => exact hv
 | 3, hv => exact hv
 | 4, hv => exact hv
 | 5, hv =>
  obtain ⟨⟨g, c, e, h1, h2, hr⟩, hlt, hn⟩ := hv
  refine ⟨⟨g, c, e, h1, h2, ?_⟩, Nat.lt_of_lt_of_le hlt h.size, hn⟩
  have hg : g ≠ b4 := hn _ _ _ e _ rfl
  intro hne
  obtain ⟨b, o, e2, -, hc⟩ := hr hne
  injection e2 with e2
  injection e2 with e3 e4
  subst e3 e4
  exact ⟨g, 0, rfl, trivial, fun i v hv => h.cell (hc i v hv) hg⟩
 | 6, hv =>
  obtain ⟨⟨A, c, e, ho⟩, hlt⟩ := hv
  exact ⟨⟨A, c, e, h.own ho fun b hb => by have := (ho.lt b hb).1; omega⟩, hlt⟩
 | 7, hv => exact hv
 | 8, hv => exact hv
 | n + 9, _ => trivial
set_option maxRecDepth 100000 in
set_option maxHeartbeats 2000000 in
theorem segm_no (w : World) (hT : Taken w) (q p i n : Nat) (hL : LHead w q p i n) (F : Foot) (s : SDev) (hd : DAt w p F s) (sl : Nat) (hi : i ≤ 2048) (hsl : sl ≤ 2048) (hin : i + sl * 8 + 8 ≤ s.now.length) (hno : secAt s.now i sl 0 = none) :
  Calls Tryz.prog 192 #[.pointer (some ⟨q, 0, none⟩), .int .i64 (sl : Int)] w fun e w' => e = .returned (.tuple #[.agg #[.int .i64 0, .int .i64 0, .slice none 0 0], .bool false]) ∧ Kp w w' := by
 have HLD := Lib.hid (fun (wr : World) (hk : Kp w wr) => lload_any wr (hT.keep hk) q p i n (hL.keep hk trivial) F s (hd.keep (hk.mono fun _ _ _ => trivial)) sl 0 hi hsl (by omega) (by omega))
 have hk0 : Kp w (w.alloc (.cells #[.int .i64 0, .int .i64 0, .slice none 0 0] 179)) := (Keeps.refl _ w).alloc _
 have hb0 := heap_alloc_new w (.cells #[.int .i64 0, .int .i64 0, .slice none 0 0] 179)
 obtain ⟨w0, hw0⟩ : ∃ w0, w.alloc (.cells #[.int .i64 0, .int .i64 0, .slice none 0 0] 179) = w0 := ⟨_, rfl⟩
 have HW0 := Lib.hid hw0
 rw [hw0] at hk0 hb0
 have HK0 := Lib.hid hk0
 have HB0 := Lib.hid hb0
 have HNO := Lib.hid hno
 clear hT hL hd hk0 hb0 hw0 hno hin
 go_enter Tryz.func192, Tryz.ntmps192
 go_wp2_with fail
 rw [HW0.out]
 have hld := HLD.out w0 HK0.out
 rw [HNO.out] at hld
 unfold ldV at hld
 refine (show Calls _ _ _ _ _ from hld).mono ?_
 clear hld
 rintro e w1 ⟨rfl, hk1⟩
 have hb1 := (hk1.block _ trivial (Array.getElem?_eq_some_iff.1 HB0.out).1).trans HB0.out
 have c0 := (cell_of_block hb1 0).trans rfl
 have c1 := (cell_of_block hb1 1).trans rfl
 have c2 := (cell_of_block hb1 2).trans rfl
 have f0 := unfrozen_of_block hb1 0
 have f1 := unfrozen_of_block hb1 1
 have f2 := unfrozen_of_block hb1 2
 have hk := HK0.out.trans hk1
 have HFIN := Lib.hid (show ∀ v0 v1 v2, Kp w (((w1.setCell ⟨w.heap.size, 0, none⟩ v0).setCell ⟨w.heap.size, 1, none⟩ v1).setCell ⟨w.heap.size, 2, none⟩ v2) from fun v0 v1 v2 => ((hk.setCell (.inl (Nat.le_refl _)) _).setCell (.inl (Nat.le_refl _)) _).setCell (.inl (Nat.le_refl _)) _)
 have HCELL := Lib.hid (show ∀ v0 v1 v2, (((w1.setCell ⟨w.heap.size, 0, none⟩ v0).setCell ⟨w.heap.size, 1, none⟩ v1).setCell ⟨w.heap.size, 2, none⟩ v2).cell? ⟨w.heap.size, 0, none⟩ = some v0 ∧ (((w1.setCell ⟨w.heap.size, 0, none⟩ v0).setCell ⟨w.heap.size, 1, none⟩ v1).setCell ⟨w.heap.size, 2, none⟩ v2).cell? ⟨w.heap.size, 1, none⟩ = some v1 ∧ (((w1.setCell ⟨w.heap.size, 0, none⟩ v0).setCell ⟨w.heap.size, 1, none⟩ v1).setCell ⟨w.heap.size, 2, none⟩ v2).cell? ⟨w.heap.size, 2, none⟩ = some v2 from fun v0 v1 v2 => by
  have h1 := block_setCell (block_setCell (block_setCell hb1 (i := 0) v0) (i := 1) v1) (i := 2) v2
  exact ⟨(cell_of_block h1 0).trans rfl, (cell_of_block h1 1).trans rfl, (cell_of_block h1 2).trans rfl⟩)
 clear hb1 hk hk1 HB0 HK0 HLD
 go_wp2_with fail
 exact bodyPost_ret (v := .tuple #[.agg #[.int .i64 0, .int .i64 0, .slice none 0 0], .bool false]) (by simp [results, Tryz.results192, go_sem, HCELL.out]) rfl ⟨rfl, HFIN.out _ _ _⟩
theorem one_store {P : Program} {w : World} {o : Oper} {a : Act} {Q : Exit → Act → World → Prop} (ty : TypeId) (x y : Operand) (ho : o.op = .store ty x y) (g j : Nat) (hx : a.eval x = .pointer (some ⟨g, j, none⟩)) (cs : List Value) (hy : a.eval y = .agg cs.toArray)
  (t : TypeId) (cur : Array Value) (hg : w.heap[g]? = some (.cells cur t (0, 0))) (hi : (P.info? ty).map (·.size) = some cs.length) (hfit : j + cs.length ≤ cur.size) (h1 : ∀ v ∈ cs, v.oneCell' = true) :
  o.wp P a w (fun a' w' => ∃ v, a' = a.put o.dst v ∧ w.grownBy w' (some g) ∧ w'.heap[g]? = some (.cells (cur.toList.take j ++ cs ++ cur.toList.drop (j + cs.length)).toArray t (0, 0))) Q := by
 unfold Oper.wp execOp
 simp only [ho, hx, hy, Instr.storeAt, Instr.sureAddr, Sem.run_bind, Sem.run_pure, Result.andThen_ok, run_store_part ty g j t cur cs hg hi hfit h1]
 exact ⟨_, rfl, ⟨rfl, rfl, rfl, by simp, fun k _ hk => setRow_other w g k _ (fun e => hk (by rw [e]))⟩, setRow_heap w g cur _ t _ hg⟩
set_option maxRecDepth 100000 in
set_option maxHeartbeats 4000000 in
theorem segm_yes (w : World) (hT : Taken w) (q p i n : Nat) (hL : LHead w q p i n) (F : Foot) (s : SDev) (hd : DAt w p F s) (sg : Seg) (hok : sg.Ok) (hfull : sg.recs ≠ []) (hon : SegOn s.now i sg) (hi : i ≤ 2048) (hsl : sg.slot ≤ 2048) (hf : sg.first ≤ 274877906943) (hin : i + sg.slot * 8 + 8 ≤ s.now.length) :
  Calls Tryz.prog 192 #[.pointer (some ⟨q, 0, none⟩), .int .i64 (sg.slot : Int)] w fun e w' => ∃ A c, e = .returned (.tuple #[.agg #[.int .i64 (sg.slot : Int), .int .i64 (sg.first : Int), .slice A sg.recs.length c], .bool true]) ∧ w'.ownsRow w.heap.size 3 1 (.slice A sg.recs.length c) sg.recs.length (endsC sg.recs) ∧ Kp w w' := by
 have hlen := hok.len
 have hpos : 0 < sg.recs.length := List.length_pos_iff.2 hfull
 have htl : 0 < sg.text.length := by
  have := strm_count sg.recs fun r h => (hok.one r h).1
  unfold Seg.text; omega
 have hsec : secAt s.now i sg.slot 0 = some (sg.first * 8, chunk sg.text 0) := hon.has 0 (by unfold nsec; omega)
 have HLD := Lib.hid (fun (wr : World) (hk : Kp w wr) => lload_any wr (hT.keep hk) q p i n (hL.keep hk trivial) F s (hd.keep (hk.mono fun _ _ _ => trivial)) sg.slot 0 hi hsl (by omega) (by omega))
 have HSM := Lib.hid (fun (w' : World) (hT' : Taken w') (hL' : LHead w' q p i n) (hd' : DAt w' p F s) => stream_any w' hT' q p i n hL' F s hd' sg.slot sg.first sg.text (.slice none 0 0) rfl hon.has hon.rest hlen hi hsl hf hin 0 8 (by omega) (by omega))
 have HPS := Lib.hid (fun (w' : World) (g c : Nat) (G : Nat → Prop) (hr : Row w' (some ⟨g, 0, none⟩) G (bcells (strm sg.recs))) (h1 : (strm sg.recs).length ≤ c) (h2 : c ≤ maxLen) => parse_seg w' sg.slot sg.first g 0 c G sg.recs hr h1 h2 hlen hok.one)
 have hk0 : Kp w (w.alloc (.cells #[.int .i64 0, .int .i64 0, .slice none 0 0] 179)) := (Keeps.refl _ w).alloc _
 have hb0 := heap_alloc_new w (.cells #[.int .i64 0, .int .i64 0, .slice none 0 0] 179)
 obtain ⟨w0, hw0⟩ : ∃ w0, w.alloc (.cells #[.int .i64 0, .int .i64 0, .slice none 0 0] 179) = w0 := ⟨_, rfl⟩
 have HW0 := Lib.hid hw0
 rw [hw0] at hk0 hb0
 have HK0 := Lib.hid hk0
 have HB0 := Lib.hid hb0
 have HSC := Lib.hid hsec
 have HT := Lib.hid hT
 have HL := Lib.hid hL
 have HD := Lib.hid hd
 have HRT := Lib.hid (show sg.text = strm sg.recs from rfl)
 have hz0 : w.heap.size < w0.heap.size := by rw [← hw0]; simp
 clear hT hL hd hk0 hb0 hw0 hin hsec hok hon hfull
 go_enter Tryz.func192, Tryz.ntmps192
 go_wp2_with fail
 rw [HW0.out]
 have hld := HLD.out w0 HK0.out
 rw [HSC.out] at hld
 unfold ldV at hld
 obtain ⟨N, hN⟩ : ∃ N, sg.first * 8 = N := ⟨_, rfl⟩
 rw [hN] at hld
 have q1 : (N : Int) / 8 = (sg.first : Int) := by omega
 have q1' : (N : Int).tdiv 8 = (sg.first : Int) := by rw [Int.tdiv_eq_ediv_of_nonneg (by omega)]; exact q1
 refine (show Calls _ _ _ _ _ from hld).mono ?_
 clear hld hN
 rintro e w1 ⟨rfl, hk1⟩
 have HB1 := Lib.hid ((hk1.block _ trivial (Array.getElem?_eq_some_iff.1 HB0.out).1).trans HB0.out)
 have HK1 := Lib.hid (HK0.out.trans hk1)
 have hz1 := hk1.size
 clear hk1 HB0 HK0 HLD
 go_wp2_with fail
 obtain ⟨w2, hw2⟩ : ∃ w2, w1.alloc (.cells #[.int .i64 (sg.slot : Int), .int .i64 (sg.first : Int), .slice none 0 0] 179) = w2 := ⟨_, rfl⟩
 have hk2 : Kp w1 w2 := by rw [← hw2]; exact (Keeps.refl _ w1).alloc _
 have HBX := Lib.hid (show SBox w2 w1.heap.size sg.slot sg.first (.slice none 0 0) from by rw [← hw2]; exact SBox.new w1 sg.slot sg.first (.slice none 0 0))
 rw [hw2]
 have HB2 := Lib.hid ((hk2.block _ trivial (Array.getElem?_eq_some_iff.1 HB1.out).1).trans HB1.out)
 have HK2 := Lib.hid (HK1.out.trans hk2)
 have hz2 : w1.heap.size < w2.heap.size := by rw [← hw2]; simp
 have hne : w1.heap.size ≠ w.heap.size := by omega
 have HQN := Lib.hid (show q ≠ w.heap.size from fun e => by have := World.block_lt_of_cell? w _ HL.out.d; simp only at this; omega)
 clear hk2 hw2 HB1 HK1
 have hL2 := HL.out.keep HK2.out trivial
 have hT2 := HT.out.keep HK2.out
 have hd2 := HD.out.keep (HK2.out.mono fun _ _ _ => trivial)
 have HL2 := Lib.hid hL2
 have HT2 := Lib.hid hT2
 have HD2 := Lib.hid hd2
 have HDN := Lib.hid (show ∀ b, F.all b → b ≠ w.heap.size from fun b hb e => by have := HD.out.lt b hb; omega)
 have HTN := Lib.hid (show ∀ k, k < 16 → (⟨0, k, none⟩ : Addr).block ≠ w.heap.size from fun k hk => by
  have h1 := World.block_lt_of_cell? w _ (HT.out k hk)
  show 0 ≠ w.heap.size
  simp only at h1
  omega)
 clear hL2 hT2 hd2
 refine wp_region_one (V := VZ q w1.heap.size w2.heap.size sg.slot sg.first sg.recs w.heap.size) (w0 := w2) 7 (StZ w2 w.heap.size w2.heap.size sg.slot sg.first sg.recs) (fun a b => Keeps (fun y => y ≠ w.heap.size) a b) GE (by kernel_rfl) (fun i a b v h hv => VZ_mono i a b v (h.mono fun _ _ _ => trivial) hv) (fun _ _ _ h hs => hs.keep h) (fun i _ a b v h hv => VZ_mono i a b v h hv) (by kernel_rfl) (by decide) GE_is (fun i o ho hw => (all_wanted (by kernel_rfl) ho hw).elim) ⟨HB2.out, (Keeps.refl _ w2).drew⟩ (each_of ?_) ?_
 ·refine ⟨?_, ?_, ?_, ?_, ?_, ?_, ?_, ?_, ?_, trivial⟩ <;> intro hw a1 w3 L
  ·rw [if_neg (by decide)]
   intro b hs _
   exact kp_move rfl (L.old 1 (by kernel_rfl))
  ·rw [if_neg (by decide)]
   intro b hs _
   exact kp_fG1 rfl (L.old 9 (by kernel_rfl))
  ·rw [if_neg (by decide)]
   intro b hs _
   exact kp_lI64 ((StZ.kp b hs).cell HBX.out.f hne) rfl (L.val 1 25 (by kernel_rfl) (by kernel_rfl))
  ·rw [if_neg (by decide)]
   intro b hs _
   exact kp_move rfl (L.old 0 (by kernel_rfl))
  ·rw [if_neg (by decide)]
   intro b hs _
   have hb := HBX.out.keep (StZ.kp b hs) hne
   exact kp_lG hb.s hb.f hb.e rfl (L.old 9 (by kernel_rfl))
  ·rw [if_neg (by decide)]
   intro b hs _
   have hkk := StZ.kp b hs
   have e0 : a1.eval (.tmp 27) = .pointer (some ⟨q, 0, none⟩) := L.val 3 27 (by kernel_rfl) (by kernel_rfl)
   have e1 : a1.eval (.tmp 28) = .agg #[.int .i64 (sg.slot : Int), .int .i64 (sg.first : Int), .slice none 0 0] := L.val 4 28 (by kernel_rfl) (by kernel_rfl)
   have hf : a1.eval (.func 151) = .func (.func 151) #[] #[] := rfl
   have hcn : a1.eval (.const (.int .i64 0)) = .int .i64 0 := rfl
   have hcn2 : a1.eval (.const (.int .i64 8)) = .int .i64 8 := rfl
   have hst := HSM.out w3 (fun k hk => hkk.cell (HT2.out k hk) (HTN.out k hk)) (HL2.out.keep hkk HQN.out) (HD2.out.keep (hkk.mono fun b _ hb => HDN.out b hb))
   rw [show (53 * 0 : Nat) = 0 from rfl, List.drop_zero, List.take_of_length_le (show sg.text.length ≤ 53 * (8 - 0) by omega)] at hst
   refine kp_enter (f := 151) (args := #[.pointer (some ⟨q, 0, none⟩), .agg #[.int .i64 (sg.slot : Int), .int .i64 (sg.first : Int), .slice none 0 0], .int .i64 0, .int .i64 8]) ?_ hst ?_
   ·clear L hs hkk hst
    generalize a1.eval = ρ at e0 e1 hf hcn hcn2 ⊢
    unfold execOp
    go_simp
   ·rintro e w' ⟨v, rfl, ho, hk⟩
    obtain ⟨g, c, rfl, hbase, hglt⟩ := ho.form htl
    have hroom := own_room ho
    have hsz := hkk.size
    exact ⟨_, rfl, hk, ⟨g, c, by rw [← HRT.out], by rw [← HRT.out]; exact hroom.1, hroom.2, by rw [← HRT.out]; exact (own_row ho).mono fun _ _ _ => trivial⟩, by have := hk.size; omega, fun A n c e a ha => by
     injection e with e
     rw [ha] at e
     injection e with e
     rw [← e]
     show g ≠ w.heap.size
     omega⟩
  ·rw [if_neg (by decide)]
   intro b hs _
   have hsz := (StZ.kp b hs).size
   have e0 : a1.eval (.tmp 24) = .int .i64 (sg.slot : Int) := L.val 0 24 (by kernel_rfl) (by kernel_rfl)
   have e1 : a1.eval (.tmp 26) = .int .i64 (sg.first : Int) := L.val 2 26 (by kernel_rfl) (by kernel_rfl)
   obtain ⟨⟨g, c, e2, h1, h2, hr⟩, -, -⟩ := L.val 5 29 (by kernel_rfl) (by kernel_rfl)
   have hf : a1.eval (.func 200) = .func (.func 200) #[] #[] := rfl
   refine kp_enter (f := 200) (args := #[.int .i64 (sg.slot : Int), .int .i64 (sg.first : Int), .slice (some ⟨g, 0, none⟩) (strm sg.recs).length c]) ?_ (HPS.out w3 g c _ hr h1 h2) ?_
   ·clear L hs hr h1 h2
    generalize a1.eval = ρ at e0 e1 e2 hf ⊢
    unfold execOp
    go_simp
   ·rintro e w' ⟨E, rfl, ho, hk⟩
    obtain ⟨A, cE, rfl, -, -⟩ := own_slice ho
    exact ⟨_, rfl, hk, ⟨A, cE, rfl, ownsRow_le ho (by omega)⟩, by omega⟩
  ·rw [if_pos rfl]
   intro hs
   obtain ⟨⟨A, cE, e2, ho⟩, hlt⟩ := L.val 6 30 (by kernel_rfl) (by kernel_rfl)
   have e0 : a1.eval (.tmp 4) = .pointer (some ⟨w.heap.size, 0, none⟩) := L.old 4 (by kernel_rfl)
   refine Oper.wp_mono ?_ (one_store 179 (.tmp 4) (.tmp 30) rfl w.heap.size 0 e0 [.int .i64 (sg.slot : Int), .int .i64 (sg.first : Int), .slice A sg.recs.length cE] e2 179 _ hs.1 (by kernel_rfl) (Nat.le_refl 3) (fun v hv => by
    simp only [List.mem_cons, List.not_mem_nil, or_false] at hv
    rcases hv with rfl | rfl | rfl <;> rfl))
   rintro a' w' ⟨v, h1, hg, hb⟩
   have hkk := keeps_grown hg
   exact ⟨v, h1, hkk, ⟨A, cE, hb, hkk.own ho fun b hb => by have := (ho.lt b hb).1; omega, (hs.2.mono fun _ _ _ => trivial).trans hkk⟩, trivial⟩
  ·rw [if_neg (by decide)]
   intro b hs _
   exact kp_assign rfl rfl
 ·intro vs w4 hs4 hlen4 hv
  match vs, hlen4 with
  | [v0, v1, v2, v3, v4, v5, v6, v7, v8], _ =>
   have e8 : v8 = .bool true := hv 8 5 (by kernel_rfl)
   clear hv
   subst e8
   simp only [putAll, List.map, Act.put, List.setIfInBounds_toArray, List.set_cons_succ, List.set_cons_zero, Exit.then]
   obtain ⟨A, cE, hb4, ho4, hk4⟩ := hs4
   have c0 := (cell_of_block hb4 0).trans rfl
   have c1 := (cell_of_block hb4 1).trans rfl
   have c2 := (cell_of_block hb4 2).trans rfl
   have hkf : Kp w w4 := by
    have hk2 := HK2.out
    exact ⟨hk4.os.trans hk2.os, hk4.tape.trans hk2.tape, hk4.output.trans hk2.output, Nat.le_trans hk2.size hk4.size, fun b _ hb => (hk4.block b (by show b ≠ w.heap.size; omega) (Nat.lt_of_lt_of_le hb hk2.size)).trans (hk2.block b trivial hb)⟩
   have H1 := Lib.hid hkf
   have H2 := Lib.hid (ownsRow_le ho4 (show w.heap.size ≤ w2.heap.size by omega))
   clear hkf ho4 hk4 hb4
   go_wp2_with fail
   exact bodyPost_ret (v := .tuple #[.agg #[.int .i64 (sg.slot : Int), .int .i64 (sg.first : Int), .slice A sg.recs.length cE], .bool true]) (by simp [results, Tryz.results192, go_sem, c0, c1, c2]) rfl ⟨A, cE, rfl, H2.out, H1.out⟩
structure Fnd where
 slot : Nat
 head : Int
 top : Int
def Fnd.step (t : Fnd) (i k : Nat) : Option (Nat × List UInt8) → Fnd
 | none => t
 | some (n, _) => if k = 0 ∧ t.head < (n : Int) then ⟨i, (n : Int), max t.top (n : Int)⟩ else ⟨t.slot, t.head, max t.top (n : Int)⟩
def findIn (rows : List (List UInt8)) (p i : Nat) (t : Fnd) : Nat → Fnd
 | 0 => t
 | k + 1 => (findIn rows p i t k).step i k (secAt rows p i k)
def findTo (rows : List (List UInt8)) (p : Nat) : Nat → Fnd
 | 0 => ⟨0, -1, -1⟩
 | i + 1 => findIn rows p i (findTo rows p i) 8
structure Fnd.Ok (t : Fnd) (i : Nat) : Prop where
 s : t.slot ≤ i
 h0 : -1 ≤ t.head
 h1 : t.head ≤ 17592186044416
 t0 : -1 ≤ t.top
 t1 : t.top ≤ 17592186044416
theorem Fnd.Ok.step {t : Fnd} {i j : Nat} (h : t.Ok i) (hi : j ≤ i) (k : Nat) (o : Option (Nat × List UInt8)) (ho : ∀ n x, o = some (n, x) → n ≤ 17592186044416) : (t.step j k o).Ok i := by
 obtain ⟨h1, h2, h3, h4, h5⟩ := h
 cases o with
 | none => exact ⟨h1, h2, h3, h4, h5⟩
 | some nx =>
  have hn := ho nx.1 nx.2 rfl
  have hn' : ((nx.1 : Nat) : Int) ≤ 17592186044416 := by omega
  unfold Fnd.step
  simp only
  split
  ·exact ⟨hi, by simp, hn', by simp; omega, by simp; omega⟩
  ·exact ⟨h1, h2, h3, by simp; omega, by simp; omega⟩
set_option maxRecDepth 100000 in
set_option maxHeartbeats 1000000 in
theorem find_any (w : World) (hT : Taken w) (q p i n : Nat) (K T : Value) (sl left nx : Nat) (hB : LBlk w q p i n K sl left T nx) (F : Foot) (s : SDev) (hd : DAt w p F s) (hi : i ≤ 2048) (hn : n ≤ 200) (hin : i + 8 * n ≤ s.now.length)
  (hnum : ∀ j k m x, j < n → k < 8 → secAt s.now i j k = some (m, x) → m ≤ 17592186044416) (R : World → Prop) (t : Fnd) (ht : t = findTo s.now i n) (hcase : (t.top = -1 ∧ t.head = -1) ∨ (0 ≤ t.top ∧ 0 ≤ t.head))
  (hno : t.top = -1 → ∀ w1, Kp w w1 → R w1)
  (hyes : 0 ≤ t.top → ∀ w1, Kp w w1 → LBlk w1 q p i n K sl left T nx → Calls Tryz.prog 167 #[.pointer (some ⟨q, 0, none⟩), .int .i64 (t.slot : Int)] (w1.setCell ⟨q, 7, none⟩ (.int .i64 (t.top / 8 + 212))) fun e w' => (∃ v, e = .returned v) ∧ R w') :
  Calls Tryz.prog 128 #[.pointer (some ⟨q, 0, none⟩)] w fun e w' => (∃ v, e = .returned v) ∧ R w' := by
 have hL := hB.head
 have HLD := Lib.hid (fun (wr : World) (hk : Kp w wr) (j k : Nat) (hj : j < n) (hk8 : k < 8) => lload_any wr (hT.keep hk) q p i n (hL.keep hk trivial) F s (hd.keep (hk.mono fun _ _ _ => trivial)) j k hi (by omega) hk8 (by omega))
 have c2 := hL.n
 have HNUM := Lib.hid hnum
 have HB := Lib.hid hB
 have HT := Lib.hid ht
 have HNO := Lib.hid hno
 have HYES := Lib.hid hyes
 have hqlt : q < w.heap.size := (Array.getElem?_eq_some_iff.1 hB).1
 have HCASE := Lib.hid hcase
 clear hT hL hd hnum hin hB ht hno hyes hcase
 go_enter Tryz.func128, Tryz.ntmps128
 go_wp2_with fail
 go_loopw [2, 3, 4, 14] (fun v2 v3 v4 vj wr => ∃ (j ts : Nat) (th tt : Int), j ≤ n ∧ vj = .int .i64 j ∧ v2 = .int .i64 (ts : Int) ∧ v3 = .int .i64 th ∧ v4 = .int .i64 tt ∧ RowKit.Hid ((⟨ts, th, tt⟩ : Fnd) = findTo s.now i j) ∧ RowKit.Hid ((⟨ts, th, tt⟩ : Fnd).Ok n) ∧ Kp w wr) (fun _ _ _ vj _ => n - (intOf vj).toNat)
 case atStart => exact ⟨0, 0, -1, -1, Nat.zero_le _, rfl, rfl, rfl, rfl, Lib.hid rfl, Lib.hid ⟨Nat.zero_le _, by decide, by decide, by decide, by decide⟩, Keeps.refl _ _⟩
 case round =>
  obtain ⟨j, ts, th, tt, hjn, rfl, rfl, rfl, rfl, ht, hok, hkp⟩ := hrel
  by_cases hlt : j < n
  ·have HK := Lib.hid hkp
   clear hkp
   go_wp2_with fail
   go_loopw [2, 3, 4, 17] (fun v2 v3 v4 vk wr => ∃ (k us : Nat) (uh ut : Int), k ≤ 8 ∧ vk = .int .i64 k ∧ v2 = .int .i64 (us : Int) ∧ v3 = .int .i64 uh ∧ v4 = .int .i64 ut ∧ RowKit.Hid ((⟨us, uh, ut⟩ : Fnd) = findIn s.now i j (findTo s.now i j) k) ∧ RowKit.Hid ((⟨us, uh, ut⟩ : Fnd).Ok n) ∧ Kp w wr) (fun _ _ _ vk _ => 8 - (intOf vk).toNat)
   case atStart => exact ⟨0, ts, th, tt, Nat.zero_le _, rfl, rfl, rfl, rfl, ht, hok, HK.out⟩
   case round =>
    obtain ⟨k, us, uh, ut, hk8, rfl, rfl, rfl, rfl, hu, hok2, hkp2⟩ := hrel
    by_cases hlt8 : k < 8
    ·have HLC := Lib.hid (HLD.out wr hkp2 j k hlt hlt8)
     have HK2 := Lib.hid hkp2
     clear hkp2
     go_wp2_with fail
     refine HLC.out.mono ?_
     rintro e w2 ⟨rfl, hk2⟩
     have HK3 := Lib.hid (HK2.out.trans hk2)
     have hs1 : findIn s.now i j (findTo s.now i j) (k + 1) = (findIn s.now i j (findTo s.now i j) k).step j k (secAt s.now i j k) := rfl
     rw [← hu.out] at hs1
     have HS1 := Lib.hid hs1
     clear hk2 hs1 HLC
     rcases hsec : secAt s.now i j k with _ | ⟨m, x⟩
     ·have HSEC := Lib.hid hsec
      clear hsec
      unfold ldV
      go_wp2_with fail
      go_roundw
      case rel => exact ⟨k + 1, us, uh, ut, by omega, by go_num, rfl, rfl, rfl, Lib.hid (by have := HS1.out; rw [HSEC.out] at this; exact this.symm), hok2, HK3.out⟩
      case measure => simp [intOf]; omega
     ·have hm := HNUM.out j k m x hlt hlt8 hsec
      have HSEC := Lib.hid hsec
      clear hsec
      unfold ldV
      have hst : ∀ a b c, (⟨a, b, c⟩ : Fnd) = (⟨us, uh, ut⟩ : Fnd).step j k (some (m, x)) → RowKit.Hid ((⟨a, b, c⟩ : Fnd) = findIn s.now i j (findTo s.now i j) (k + 1)) ∧ RowKit.Hid ((⟨a, b, c⟩ : Fnd).Ok n) := fun a b c e => by
       have h1 := HS1.out
       rw [HSEC.out] at h1
       exact ⟨Lib.hid (by rw [h1, e]), Lib.hid (by rw [e]; exact hok2.out.step (Nat.le_of_lt hlt) k _ (fun n' x' e' => by cases e'; exact hm))⟩
      have HST := Lib.hid hst
      have hmx := hok2.out.t1
      have hmx0 := hok2.out.t0
      simp only at hmx hmx0
      clear hst
      by_cases hk0 : k = 0
      ·have dk : ((k : Int) == 0) = true := by simp [hk0]
       by_cases hgt : uh < (m : Int)
       ·have dh : decide (uh < (m : Int)) = true := by simp [hgt]
        have dh2 : decide ((m : Int) > uh) = true := by simp [hgt]
        have HS2 := Lib.hid (HST.out j (m : Int) (max ut (m : Int)) (by simp [Fnd.step, hk0, hgt]))
        have HGT := Lib.hid hgt
        clear hgt HST
        go_wp2_with fail
        go_roundw
        case rel => exact ⟨k + 1, j, _, max ut (m : Int), by omega, by go_num, rfl, rfl, rfl, HS2.out.1, HS2.out.2, HK3.out⟩
        case measure => simp [intOf]; omega
       ·have dh : decide (uh < (m : Int)) = false := by simp; omega
        have HS2 := Lib.hid (HST.out us uh (max ut (m : Int)) (by simp [Fnd.step, hk0, hgt]))
        have HGT := Lib.hid hgt
        clear HST
        go_wp2_with fail
        go_roundw
        case rel => exact ⟨k + 1, us, _, max ut (m : Int), by omega, by go_num, rfl, rfl, rfl, HS2.out.1, HS2.out.2, HK3.out⟩
        case measure => simp [intOf]; omega
      ·have dk : ((k : Int) == 0) = false := by simp; omega
       have HS2 := Lib.hid (HST.out us uh (max ut (m : Int)) (by simp [Fnd.step, hk0]))
       clear HST
       go_wp2_with fail
       go_roundw
       case rel => exact ⟨k + 1, us, _, max ut (m : Int), by omega, by go_num, rfl, rfl, rfl, HS2.out.1, HS2.out.2, HK3.out⟩
       case measure => simp [intOf]; omega
    ·obtain rfl : k = 8 := by omega
     have HK2 := Lib.hid hkp2
     clear hkp2
     go_wp2_with fail
     go_roundw
     case rel => exact ⟨j + 1, us, uh, ut, by omega, by go_num, rfl, rfl, rfl, Lib.hid hu.out, hok2, HK2.out⟩
     case measure => simp [intOf]; omega
  ·obtain rfl : j = n := by omega
   have HK := Lib.hid hkp
   obtain rfl : t = ⟨ts, th, tt⟩ := HT.out.trans ht.out.symm
   have hb := HB.out.keep hkp trivial
   have HB2 := Lib.hid hb
   have c7 := (cell_of_block hb 7).trans rfl
   have f7 := unfrozen_of_block hb 7
   have o1 := hok.out.t1
   have o2 := hok.out.h1
   simp only at o1 o2
   clear hkp hb
   rcases HCASE.out with ⟨e1, e2⟩ | ⟨e1, e2⟩
   ·obtain rfl : tt = -1 := e1
    obtain rfl : th = -1 := e2
    go_wp2_with fail
    go_end0
    exact ⟨⟨_, rfl⟩, HNO.out trivial _ HK.out⟩
   ·have e1 : 0 ≤ tt := e1
    have e2 : 0 ≤ th := e2
    have d1 : decide (0 ≤ tt) = true := by simp [e1]
    have d2 : decide (0 ≤ th) = true := by simp [e2]
    obtain ⟨t8, ht8⟩ : ∃ t8, tt / 8 = t8 := ⟨_, rfl⟩
    have q1 : tt.tdiv 8 = t8 := by rw [Int.tdiv_eq_ediv_of_nonneg (by omega)]; exact ht8
    have b1 : 0 ≤ t8 := by omega
    have b2 : t8 ≤ 2199023255552 := by omega
    have HY := Lib.hid (HYES.out e1 wr HK.out HB2.out)
    rw [show (⟨ts, th, tt⟩ : Fnd).top = tt from rfl, ht8] at HY
    clear e1 e2
    go_wp2_with fail
    refine HY.out.mono ?_
    rintro e w3 ⟨⟨v, rfl⟩, hr⟩
    go_wp2_with fail
    go_end0
    exact ⟨⟨_, rfl⟩, hr⟩
end Go.Proofs.YticophaepapjoaaGreatDoor
namespace Go.Proofs.YticophaepapjoaaGreatDoor
structure Fnd.Tells (rows : List (List UInt8)) (p : Nat) (S : Nat → Nat → Prop) (t : Fnd) : Prop where
 topGe : ∀ i k m x, S i k → secAt rows p i k = some (m, x) → (m : Int) ≤ t.top
 topIs : t.top = -1 ∨ ∃ i k m x, S i k ∧ secAt rows p i k = some (m, x) ∧ t.top = (m : Int)
 headGe : ∀ i m x, S i 0 → secAt rows p i 0 = some (m, x) → (m : Int) ≤ t.head
 headIs : (t.head = -1 ∧ t.slot = 0) ∨ ∃ m x, S t.slot 0 ∧ secAt rows p t.slot 0 = some (m, x) ∧ t.head = (m : Int)
theorem Fnd.Tells.step {rows : List (List UInt8)} {p : Nat} {S S' : Nat → Nat → Prop} {t : Fnd} (h : t.Tells rows p S) (i k : Nat) (hS : ∀ a b, S' a b ↔ S a b ∨ (a = i ∧ b = k)) : (t.step i k (secAt rows p i k)).Tells rows p S' := by
 obtain ⟨h1, h2, h3, h4⟩ := h
 cases hs : secAt rows p i k with
 | none =>
  refine ⟨fun a b m x hab e => ?_, ?_, fun a m x hab e => ?_, ?_⟩
  ·rcases (hS a b).1 hab with h | ⟨rfl, rfl⟩
   ·exact h1 a b m x h e
   ·rw [hs] at e; cases e
  ·rcases h2 with h | ⟨a, b, m, x, hab, e, e2⟩
   ·exact .inl h
   ·exact .inr ⟨a, b, m, x, (hS a b).2 (.inl hab), e, e2⟩
  ·rcases (hS a 0).1 hab with h | ⟨rfl, rfl⟩
   ·exact h3 a m x h e
   ·rw [hs] at e; cases e
  ·rcases h4 with h | ⟨m, x, hab, e, e2⟩
   ·exact .inl h
   ·exact .inr ⟨m, x, (hS _ 0).2 (.inl hab), e, e2⟩
 | some nx =>
  obtain ⟨n, y⟩ := nx
  have hin : S' i k := (hS i k).2 (.inr ⟨rfl, rfl⟩)
  have htop : ∀ a b m x, S' a b → secAt rows p a b = some (m, x) → (m : Int) ≤ max t.top (n : Int) := fun a b m x hab e => by
   rcases (hS a b).1 hab with h | ⟨rfl, rfl⟩
   ·have := h1 a b m x h e; omega
   ·rw [hs] at e; cases e; omega
  have htopI : max t.top (n : Int) = -1 ∨ ∃ a b m x, S' a b ∧ secAt rows p a b = some (m, x) ∧ max t.top (n : Int) = (m : Int) := by
   by_cases hle : t.top ≤ (n : Int)
   ·exact .inr ⟨i, k, n, y, hin, hs, by omega⟩
   ·rcases h2 with h | ⟨a, b, m, x, hab, e, e2⟩
    ·omega
    ·exact .inr ⟨a, b, m, x, (hS a b).2 (.inl hab), e, by omega⟩
  unfold Fnd.step
  simp only
  split
  ·rename_i hc
   obtain ⟨hk0, hlt⟩ := hc
   subst hk0
   refine ⟨htop, htopI, fun a m x hab e => ?_, .inr ⟨n, y, hin, hs, rfl⟩⟩
   show (m : Int) ≤ (n : Int)
   rcases (hS a 0).1 hab with h | ⟨rfl, -⟩
   ·have := h3 a m x h e; omega
   ·rw [hs] at e; cases e; omega
  ·rename_i hc
   refine ⟨htop, htopI, fun a m x hab e => ?_, ?_⟩
   ·show (m : Int) ≤ t.head
    rcases (hS a 0).1 hab with h | ⟨rfl, hk⟩
    ·exact h3 a m x h e
    ·subst hk
     rw [hs] at e; cases e
     have := not_and.1 hc rfl
     omega
   ·rcases h4 with h | ⟨m, x, hab, e, e2⟩
    ·exact .inl h
    ·exact .inr ⟨m, x, (hS _ 0).2 (.inl hab), e, e2⟩
theorem Fnd.Tells.iff {rows : List (List UInt8)} {p : Nat} {S S' : Nat → Nat → Prop} {t : Fnd} (h : t.Tells rows p S) (hS : ∀ a b, b < 8 ∨ b = 0 → (S' a b ↔ S a b)) (hb : ∀ a b, S a b → b < 8) (hb' : ∀ a b, S' a b → b < 8) : t.Tells rows p S' := by
 obtain ⟨h1, h2, h3, h4⟩ := h
 refine ⟨fun a b m x hab e => h1 a b m x ((hS a b (.inl (hb' a b hab))).1 hab) e, ?_, fun a m x hab e => h3 a m x ((hS a 0 (.inr rfl)).1 hab) e, ?_⟩
 ·rcases h2 with h | ⟨a, b, m, x, hab, e, e2⟩
  ·exact .inl h
  ·exact .inr ⟨a, b, m, x, (hS a b (.inl (hb a b hab))).2 hab, e, e2⟩
 ·rcases h4 with h | ⟨m, x, hab, e, e2⟩
  ·exact .inl h
  ·exact .inr ⟨m, x, (hS _ 0 (.inr rfl)).2 hab, e, e2⟩
def ahead (i k : Nat) : Nat → Nat → Prop := fun a b => b < 8 ∧ (a < i ∨ (a = i ∧ b < k))
theorem findIn_tells (rows : List (List UInt8)) (p i : Nat) (t : Fnd) (h : t.Tells rows p (ahead i 0)) (k : Nat) (hk : k ≤ 8) : (findIn rows p i t k).Tells rows p (ahead i k) := by
 induction k with
 | zero => exact h
 | succ k ih =>
  exact (ih (by omega)).step i k (fun a b => by unfold ahead; constructor <;> intro h <;> omega)
theorem findTo_tells (rows : List (List UInt8)) (p : Nat) (j : Nat) : (findTo rows p j).Tells rows p (ahead j 0) := by
 induction j with
 | zero => exact ⟨fun a b m x hab => by unfold ahead at hab; omega, .inl rfl, fun a m x hab => by unfold ahead at hab; omega, .inl ⟨rfl, rfl⟩⟩
 | succ j ih =>
  exact (findIn_tells rows p j _ ih 8 (Nat.le_refl _)).iff (fun a b hb => by unfold ahead; constructor <;> intro h <;> omega) (fun a b h => h.1) (fun a b h => h.1)
theorem find_empty {rows : List (List UInt8)} {p segs : Nat} (h : OnDisk rows p segs []) : (findTo rows p segs).top = -1 ∧ (findTo rows p segs).head = -1 := by
 obtain ⟨-, h2, -, h4⟩ := findTo_tells rows p segs
 have hn : ∀ a b, ahead segs 0 a b → secAt rows p a b = none := fun a b hab => by
  unfold ahead at hab
  exact h.none a (by omega) (fun s hs => by cases hs) b hab.1
 constructor
 ·rcases h2 with h | ⟨a, b, m, x, hab, e, -⟩
  ·exact h
  ·rw [hn a b hab] at e; cases e
 ·rcases h4 with h | ⟨m, x, hab, e, -⟩
  ·exact h.1
  ·rw [hn _ _ hab] at e; cases e
theorem nsec_pos (n : Nat) : 0 < nsec n := by unfold nsec; omega
theorem find_last {rows : List (List UInt8)} {p segs b0 : Nat} {ks : List Seg} {l : Seg} (hc : Chain segs b0 (ks ++ [l])) (h : OnDisk rows p segs (ks ++ [l])) :
  (findTo rows p segs).slot = l.slot ∧ (findTo rows p segs).head = (l.first : Int) * 8 ∧ 0 ≤ (findTo rows p segs).top ∧ (findTo rows p segs).top / 8 = (l.first : Int) := by
 obtain ⟨h1, h2, h3, h4⟩ := findTo_tells rows p segs
 have hml : l ∈ ks ++ [l] := by simp
 have hls := hc.slot_lt l hml
 have hl0 := (h.on l hml).has 0 (nsec_pos _)
 have hbelow : ∀ s ∈ ks, s.first < l.first := fun s hs => by
  have h1 := (List.pairwise_append.1 hc.rise).2.2 s hs l (by simp)
  have h2 := List.length_pos_iff.2 (hc.full s (List.mem_append_left _ hs))
  unfold Seg.end_ at h1
  omega
 have hsec : ∀ a b m x, a < segs → b < 8 → secAt rows p a b = some (m, x) → m < l.first * 8 ∨ (a = l.slot ∧ m = l.first * 8 + b) := fun a b m x ha hb e => by
  by_cases hs : ∃ s ∈ ks ++ [l], s.slot = a
  ·obtain ⟨s, hs, rfl⟩ := hs
   have hon := h.on s hs
   by_cases hn : b < nsec s.text.length
   ·have := hon.has b hn
    rw [e] at this
    cases this
    rcases List.mem_append.1 hs with hs | hs
    ·have := hbelow s hs; left; omega
    ·rw [List.mem_singleton.1 hs]; exact .inr ⟨rfl, rfl⟩
   ·have := hon.rest b (by omega) hb m x e
    rcases List.mem_append.1 hs with hs | hs
    ·have := hbelow s hs; left; omega
    ·rw [List.mem_singleton.1 hs] at this; exact .inl this
  ·rw [h.none a ha (fun s hs' e' => hs ⟨s, hs', e'⟩) b hb] at e; cases e
 have hge : (l.first : Int) * 8 ≤ (findTo rows p segs).top := by
  have := h1 l.slot 0 _ _ (by unfold ahead; omega) hl0; omega
 have hhd : (l.first : Int) * 8 ≤ (findTo rows p segs).head := by
  have := h3 l.slot _ _ (by unfold ahead; omega) hl0; omega
 have hslot : (findTo rows p segs).slot = l.slot ∧ (findTo rows p segs).head = (l.first : Int) * 8 := by
  rcases h4 with ⟨e, -⟩ | ⟨m, x, hab, e, e2⟩
  ·omega
  ·rcases hsec _ 0 m x (by unfold ahead at hab; omega) (by omega) e with h | ⟨h, hm⟩
   ·omega
   ·exact ⟨h, by omega⟩
 refine ⟨hslot.1, hslot.2, by omega, ?_⟩
 rcases h2 with e | ⟨a, b, m, x, hab, e, e2⟩
 ·omega
 ·unfold ahead at hab
  rcases hsec a b m x (by omega) hab.1 e with h | ⟨-, hm⟩
  ·omega
  ·omega
end Go.Proofs.YticophaepapjoaaGreatDoor
