/-
  SlgRecs, SlgAt, SlgSlices: texts of mine, joined.
-/
import Derived.Test.YticophaepapjoaaGreatDoorAllB20
import Derived.Test.YticophaepapjoaaGreatDoorAllB04
import Derived.Sort.Row
open Go.Lib renaming hid → Hd
set_option maxRecDepth 100000
set_option maxHeartbeats 8000000
namespace Go.Proofs.YticophaepapjoaaGreatDoor
open Go Go.RowKit Go.Joins
theorem rec_elem : Elem Tryz.prog 169 172 (.agg #[.int .i64 0, .slice none 0 0]) 2 32 := ⟨Tryz.underlying169, by kernel_rfl, rfl, by decide⟩
def recC : List (Nat × List UInt8) → List Value → List Value
 | p :: ps, v :: vs => .int .i64 (p.1 : Int) :: v :: recC ps vs
 | _, _ => []
theorem recC_append (ps : List (Nat × List UInt8)) (vs : List Value) (qs : List (Nat × List UInt8)) (us : List Value) (h : vs.length = ps.length) : recC (ps ++ qs) (vs ++ us) = recC ps vs ++ recC qs us := by
 induction ps generalizing vs with
 | nil => cases vs with
  | nil => rfl
  | cons v vs => cases h
 | cons p ps ih => cases vs with
  | nil => cases h
  | cons v vs => simp only [List.cons_append, recC]; rw [ih vs (by simpa using h)]
theorem recC_len (ps : List (Nat × List UInt8)) (vs : List Value) (h : vs.length = ps.length) : (recC ps vs).length = ps.length * 2 := by
 induction ps generalizing vs with
 | nil => cases vs with
  | nil => rfl
  | cons v vs => cases h
 | cons p ps ih => cases vs with
  | nil => cases h
  | cons v vs => simp only [recC, List.length_cons]; rw [ih vs (by simpa using h)]; omega
theorem recC_at (ps : List (Nat × List UInt8)) (vs : List Value) (h : vs.length = ps.length) (j : Nat) (hj : j < ps.length) : (recC ps vs)[j * 2]? = some (.int .i64 ((ps[j]).1 : Int)) ∧ (recC ps vs)[j * 2 + 1]? = vs[j]? := by
 induction ps generalizing vs j with
 | nil => simp at hj
 | cons p ps ih => cases vs with
  | nil => cases h
  | cons v vs => cases j with
   | zero => exact ⟨rfl, rfl⟩
   | succ j =>
    have := ih vs (by simpa using h) j (by simpa using hj)
    simp only [recC, show (j + 1) * 2 = j * 2 + 1 + 1 by omega, List.getElem?_cons_succ, List.getElem_cons_succ]
    exact this
theorem recC_one (ps : List (Nat × List UInt8)) (vs : List Value) (hv : ∀ v ∈ vs, v.oneCell' = true) : ∀ u ∈ recC ps vs, u.oneCell' = true := by
 induction ps generalizing vs with
 | nil => cases vs <;> (intro u hu; simp [recC] at hu)
 | cons p ps ih => cases vs with
  | nil => intro u hu; simp [recC] at hu
  | cons v vs =>
   intro u hu
   simp only [recC, List.mem_cons] at hu
   rcases hu with rfl | rfl | hu
   ·rfl
   ·exact hv _ (by simp)
   ·exact ih vs (fun v h => hv v (by simp [h])) u hu
structure RowC (w : World) (A : Option Addr) (c : Nat) (F : Nat → Prop) (xs : List Value) : Prop where
 r : Row w A F xs
 fit : xs.length ≤ c ∧ c ≤ maxLen
theorem RowC.keep {w w' : World} {A : Option Addr} {c : Nat} {F : Nat → Prop} {xs : List Value} (h : RowC w A c F xs) (hk : Keeps F w w') : RowC w' A c F xs := ⟨h.r.keep hk, h.fit⟩
theorem RowC.mono {w : World} {A : Option Addr} {c : Nat} {F G : Nat → Prop} {xs : List Value} (h : RowC w A c F xs) (hF : ∀ b, b < w.heap.size → F b → G b) : RowC w A c G xs := ⟨h.r.mono hF, h.fit⟩
theorem RowC.alloc {w : World} {A : Option Addr} {c : Nat} {F : Nat → Prop} {xs : List Value} (h : RowC w A c F xs) (o : Obj) : RowC (w.alloc o) A c F xs := ⟨h.r.alloc o, h.fit⟩
structure RecRow (w : World) (base : Nat) (v : Value) (ps : List (Nat × List UInt8)) : Prop where
 ex : ∃ vs : List Value, vs.length = ps.length ∧ w.ownsRow base 172 2 v ps.length (recC ps vs) ∧ ∀ j (hj : j < ps.length), ∃ B c, vs[j]? = some (.slice B (ps[j]).2.length c) ∧ RowC w B c (fun b => base ≤ b ∧ v.ownBlock ≠ some b) (bcells (ps[j]).2)
section
variable {w w' : World} {base : Nat} {v v' : Value} {ps qs : List (Nat × List UInt8)}
theorem RecRow.nil (w : World) (base : Nat) : RecRow w base (.slice none 0 0) [] := ⟨[], rfl, World.ownsRow_nil _ _ _ _, fun j hj => by simp at hj⟩
theorem RecRow.keep (h : RecRow w base v ps) (hk : Kp w w') : RecRow w' base v ps := by
 obtain ⟨vs, h1, h2, h3⟩ := h.ex
 refine ⟨vs, h1, hk.own h2 fun _ _ => trivial, fun j hj => ?_⟩
 obtain ⟨B, c, e, hr⟩ := h3 j hj
 exact ⟨B, c, e, hr.keep (hk.mono fun _ _ _ => trivial)⟩
theorem RecRow.from {b0 : Nat} (h : RecRow w base v ps) (hb : b0 ≤ base) : RecRow w b0 v ps := by
 obtain ⟨vs, h1, h2, h3⟩ := h.ex
 refine ⟨vs, h1, ownsRow_le h2 hb, fun j hj => ?_⟩
 obtain ⟨B, c, e, hr⟩ := h3 j hj
 exact ⟨B, c, e, hr.mono fun b _ hb' => ⟨Nat.le_trans hb hb'.1, hb'.2⟩⟩
theorem RecRow.put {vs us : List Value} (h1 : vs.length = ps.length) (_h2 : w.ownsRow base 172 2 v ps.length (recC ps vs)) (h3 : ∀ j (hj : j < ps.length), ∃ B c, vs[j]? = some (.slice B (ps[j]).2.length c) ∧ RowC w B c (fun b => base ≤ b ∧ v.ownBlock ≠ some b) (bcells (ps[j]).2))
  (hu : us.length = qs.length) (h4 : ∀ j (hj : j < qs.length), ∃ B c, us[j]? = some (.slice B (qs[j]).2.length c) ∧ RowC w B c (fun b => base ≤ b ∧ v.ownBlock ≠ some b) (bcells (qs[j]).2))
  (ho : w'.ownsRow base 172 2 v' (ps.length + qs.length) (recC ps vs ++ recC qs us)) (hg : w.grownBy w' v.ownBlock) (hb : v'.ownBlock = v.ownBlock ∨ v'.ownBlock = some w.heap.size) : RecRow w' base v' (ps ++ qs) := by
 have hk : Keeps (fun b => v.ownBlock ≠ some b) w w' := Keeps.of_grown hg fun b e _ hn => hn e
 have hrow : ∀ (B : Option Addr) (c : Nat) (xs : List Value), RowC w B c (fun b => base ≤ b ∧ v.ownBlock ≠ some b) xs → RowC w' B c (fun b => base ≤ b ∧ v'.ownBlock ≠ some b) xs := fun B c xs hr => ⟨
  ((hr.r.lt).keep (hk.mono fun b _ hb' => hb'.1.2)).mono fun b _ hb' => ⟨hb'.1.1, fun e => by
   rcases hb with e2 | e2
   ·exact hb'.1.2 (by rw [← e2]; exact e)
   ·rw [e2] at e; injection e with e; omega⟩, hr.fit⟩
 refine ⟨vs ++ us, by simp [h1, hu], ?_, fun j hj => ?_⟩
 ·rw [recC_append _ _ _ _ h1, List.length_append]; exact ho
 ·by_cases hlt : j < ps.length
  ·obtain ⟨B, c, e, hr⟩ := h3 j hlt
   refine ⟨B, c, ?_, ?_⟩
   ·rw [List.getElem?_append_left (by omega), e, List.getElem_append_left hlt]
   ·rw [List.getElem_append_left hlt]; exact hrow _ _ _ hr
  ·have hj' : j - ps.length < qs.length := by rw [List.length_append] at hj; omega
   obtain ⟨B, c, e, hr⟩ := h4 (j - ps.length) hj'
   refine ⟨B, c, ?_, ?_⟩
   ·rw [List.getElem?_append_right (by omega), h1, e, List.getElem_append_right (by omega)]
   ·rw [List.getElem_append_right (by omega)]; exact hrow _ _ _ hr
end
theorem src_rec1 (W : World) (y : Nat) (v : Value) (hv1 : v.oneCell' = true) : Src Tryz.prog 2 169 (.slice (some ⟨W.heap.size, 0, none⟩) 1 1) 1 [.int .i64 (y : Int), v] (W.alloc (.cells #[.int .i64 (y : Int), v] 172)) :=
 Src.ofSlice _ Tryz.underlying169 ⟨W.heap.size, 0, none⟩ 1 1 [.int .i64 (y : Int), v] rfl (fun j u hu => by
  rw [WideShapes.add_plain, Nat.zero_add]
  exact (cell_alloc_mark_at W _ _ _ W.heap.size j rfl).trans (by rw [← hu, ← Array.getElem?_toList])) (fun u hu => by
  simp only [List.mem_cons, List.not_mem_nil, or_false] at hu
  rcases hu with rfl | rfl
  ·rfl
  ·exact hv1)
def PB (base : Nat) (l : List UInt8) : World → Value → Prop := fun w v => ∃ A c, v = .slice A l.length c ∧ l.length ≤ c ∧ c ≤ maxLen ∧ Row w A (fun b => base ≤ b) (bcells l)
theorem PB.mono {base : Nat} {l : List UInt8} {w w' : World} {v : Value} (h : Kp w w') (hv : PB base l w v) : PB base l w' v := by
 obtain ⟨A, c, e, h1, h2, hr⟩ := hv
 exact ⟨A, c, e, h1, h2, hr.keep (h.mono fun _ _ _ => trivial)⟩
def PT (base : Nat) (l : List UInt8) : World → Value → Prop := fun w v => ∃ b, v = .tuple #[b, .bool true] ∧ PB base l w b
theorem PT.mono {base : Nat} {l : List UInt8} {w w' : World} {v : Value} (h : Kp w w') (hv : PT base l w v) : PT base l w' v := by
 obtain ⟨b, e, hb⟩ := hv
 exact ⟨b, e, hb.mono h⟩
def VD (g c m : Nat) (u v E : Value) (j z z1 base : Nat) (l : List UInt8) : Nat → World → Value → Prop
 | 0 => IsV (.slice (some ⟨g, 0, none⟩) m c)
 | 1 => IsV (.agg #[u, v, E])
 | 2 => IsV (.int .i64 (j : Int))
 | 3 => IsV (.int .i64 (z : Int))
 | 4 => IsV (.agg #[u, v, E])
 | 5 => IsV (.int .i64 (j : Int))
 | 6 => IsV (.int .i64 ((j : Int) + 1))
 | 7 => IsV (.int .i64 (z1 : Int))
 | 8 => PT base l
 | 9 => PT base l
 | 10 => PB base l
 | 11 => IsV (.bool true)
 | 12 => PB base l
 | 13 => IsV (.bool true)
 | _ => fun _ _ => True
theorem VD_mono {g c m : Nat} {u v E : Value} {j z z1 base : Nat} {l : List UInt8} (i : Nat) (w w' : World) (x : Value) (h : Kp w w') (hv : VD g c m u v E j z z1 base l i w x) : VD g c m u v E j z z1 base l i w' x := by
 match i, hv with
 | 0, hv => exact hv
 | 1, hv => exact hv
 | 2, hv => exact hv
 | 3, hv => exact hv
 | 4, hv => exact hv
 | 5, hv => exact hv
 | 6, hv => exact hv
 | 7, hv => exact hv
 | 8, hv => exact PT.mono h hv
 | 9, hv => exact PT.mono h hv
 | 10, hv => exact PB.mono h hv
 | 11, hv => exact hv
 | 12, hv => exact PB.mono h hv
 | 13, hv => exact hv
 | n + 14, _ => trivial
theorem bodies_any (w : World) (hT : Taken w) (q p i n : Nat) (hL : LHead w q p i n) (F : Foot) (s : SDev) (hd : DAt w p F s) (sg : Seg) (E : Value) (G : Nat → Prop) (hE : SegV w G sg E) (hok : sg.Ok) (hfull : sg.recs ≠ []) (hon : SegOn s.now i sg)
  (hi : i ≤ 2048) (hsl : sg.slot ≤ 2048) (hf : sg.first ≤ 274877906943) (hin : i + sg.slot * 8 + 8 ≤ s.now.length) :
  Calls Tryz.prog 129 #[.pointer (some ⟨q, 0, none⟩), .agg #[.int .i64 (sg.slot : Int), .int .i64 (sg.first : Int), E]] w fun e w' => ∃ v, e = .returned v ∧ RecRow w' w.heap.size v (sg.recs.map LRec.key) ∧ Kp w w' := by
 have hcnt := hok.count
 have hlen := hok.len
 have hpos : 0 < sg.recs.length := List.length_pos_iff.2 hfull
 have htl : 0 < sg.text.length := by
  have := strm_count sg.recs fun r h => (hok.one r h).1
  unfold Seg.text; omega
 have HOK := Hd hok
 have HEV := Hd hE
 have HSM := Hd (fun (w' : World) (hk : Kp w w') => stream_any w' (hT.keep hk) q p i n (hL.keep hk trivial) F s (hd.keep (hk.mono fun _ _ _ => trivial)) sg.slot sg.first sg.text E hE.one hon.has hon.rest hlen hi hsl hf hin 0 8 (by omega) (by omega))
 have HCT := Hd (fun (w' : World) (hk : Kp w w') => seg_count w' G sg E (.int .i64 (sg.slot : Int)) (.int .i64 (sg.first : Int)) (hE.keep (hk.mono fun _ _ _ => trivial)) rfl rfl)
 have HST := Hd (fun (w' : World) (hk : Kp w w') (k : Nat) (hkl : k ≤ sg.recs.length) => seg_start w' G sg E (.int .i64 (sg.slot : Int)) (.int .i64 (sg.first : Int)) (hE.keep (hk.mono fun _ _ _ => trivial)) rfl rfl (by omega) k hkl)
 have hEone := hE.one
 have hk0 : Kp w (w.alloc (.cells #[.int .i64 (sg.slot : Int), .int .i64 (sg.first : Int), E] 179)) := (Keeps.refl _ w).alloc _
 have HK0 := Hd hk0
 have HB0 := Hd (SBox.new w sg.slot sg.first E)
 have c0 := HB0.out.s
 have c1 := HB0.out.f
 have c2 := HB0.out.e
 obtain ⟨w0, hw0⟩ : ∃ w0, w.alloc (.cells #[.int .i64 (sg.slot : Int), .int .i64 (sg.first : Int), E] 179) = w0 := ⟨_, rfl⟩
 have HW0 := Hd hw0
 rw [hw0] at HK0 HB0
 clear hT hL hd hE hok hon hk0 hin hfull hw0
 go_enter Tryz.func129, Tryz.ntmps129
 go_wp2_with fail
 rw [HW0.out]
 have hs := HSM.out w0 HK0.out
 rw [show (53 * 0 : Nat) = 0 from rfl, List.drop_zero, List.take_of_length_le (show sg.text.length ≤ 53 * (8 - 0) by omega)] at hs
 refine hs.mono ?_
 clear hs c0 c1 c2
 rintro e' w1 ⟨vt, rfl, ho, hk1⟩
 obtain ⟨g, c, rfl, hbase, hglt⟩ := ho.form htl
 have hroom := own_room ho
 have HRT := Hd (own_row ho)
 have HB1 := Hd (HB0.out.keep hk1 trivial)
 have HK1 := Hd (HK0.out.trans hk1)
 have c0 := HB1.out.s
 have c1 := HB1.out.f
 have c2 := HB1.out.e
 clear ho hk1 hbase HB0 HK0
 go_wp2_with fail
 refine (HCT.out w1 HK1.out).mono ?_
 rintro e' w2 ⟨rfl, hk2⟩
 have HRT2 := Hd (HRT.out.keep (hk2.mono fun _ _ _ => trivial))
 have HB2 := Hd (HB1.out.keep hk2 trivial)
 have HK2 := Hd (HK1.out.trans hk2)
 clear hk2 HB1 HK1 HRT c0 c1 c2
 go_wp2_with fail
 have hkl : (sg.recs.map LRec.key).length = sg.recs.length := List.length_map ..
 go_loopw [5, 15] (fun vo vj wr => ∃ (j : Nat) (u : Value), j ≤ sg.recs.length ∧ vj = .int .i64 j ∧ u = vo ∧ RecRow wr w2.heap.size u ((sg.recs.map LRec.key).take j) ∧ Kp w2 wr) (fun _ vj _ => sg.recs.length - (intOf vj).toNat)
 case atStart => exact ⟨0, _, Nat.zero_le _, rfl, rfl, by rw [List.take_zero]; exact RecRow.nil _ _, Keeps.refl _ _⟩
 case round =>
  obtain ⟨j, u, hj, rfl, hu, hrr, hkp⟩ := hrel
  subst hu
  by_cases hlt : j < sg.recs.length
  ·obtain ⟨z, hz⟩ : ∃ z, endAt sg.recs j = z := ⟨_, rfl⟩
   obtain ⟨z1, hz1⟩ : ∃ z1, endAt sg.recs (j + 1) = z1 := ⟨_, rfl⟩
   have hzz : z < z1 := by rw [← hz, ← hz1]; exact endAt_lt _ _ hlt
   have hzl : z1 ≤ sg.text.length := by rw [← hz1]; exact endAt_le _ _
   have HREC := Hd (show (sg.text.drop z).take (z1 - z) = putT (sg.recs[j]).body by rw [← hz, ← hz1]; exact strm_rec sg.recs j hlt)
   have HB3 := Hd (HOK.out.one _ (List.getElem_mem hlt)).2
   have HPO := Hd (HOK.out.pos j hlt)
   have HZ := Hd hz
   have HZ1 := Hd hz1
   have HRR := Hd hrr
   have HK := Hd hkp
   have HTK := Hd (show (sg.recs.map LRec.key).take (j + 1) = (sg.recs.map LRec.key).take j ++ [(sg.first + j, (sg.recs[j]).body)] from by
    rw [take_next _ _ (by rw [hkl]; exact hlt), List.getElem_map]
    unfold LRec.key
    rw [HPO.out])
   have hjl : ((sg.recs.map LRec.key).take j).length = j := by rw [List.length_take, hkl]; omega
   generalize (sg.recs[j]).body = y at HREC HB3 HTK
   have hj300 : j ≤ 300 := by omega
   clear hz hz1 hrr hkp
   go_wp2_with fail
   refine wp_region_guard (R := Kp) (V := VD g c sg.text.length (.int .i64 (sg.slot : Int)) (.int .i64 (sg.first : Int)) E j z z1 wr.heap.size y) (w0 := wr) GE (by kernel_rfl) (fun w => Keeps.refl _ w) (fun _ _ _ h k => h.trans k) (fun i w w' v h hv => VD_mono i w w' v h hv) (by kernel_rfl) GE_is (fun i o ho hw => (all_wanted (by kernel_rfl) ho hw).elim) ((Keeps.refl _ wr).drew) (each_of ?_) ?_
   ·refine ⟨?_, ?_, ?_, ?_, ?_, ?_, ?_, ?_, ?_, ?_, ?_, ?_, ?_, ?_, trivial⟩ <;> intro hw a1 w3 L
    ·exact kp_move rfl (L.o 6)
    ·have hb := HB2.out.keep (HK.out.trans L.rel) trivial
     exact kp_lG hb.s hb.f hb.e rfl (L.o 3)
    ·exact kp_move rfl (L.o 7)
    ·have e0 : a1.eval (.tmp 20) = .agg #[.int .i64 (sg.slot : Int), .int .i64 (sg.first : Int), E] := L.v 1 20
     have e1 : a1.eval (.tmp 21) = .int .i64 (j : Int) := L.v 2 21
     have hf : a1.eval (.func 149) = .func (.func 149) #[] #[] := rfl
     refine kp_enter (f := 149) (args := #[.agg #[.int .i64 (sg.slot : Int), .int .i64 (sg.first : Int), E], .int .i64 (j : Int)]) ?_ (HST.out w3 (HK2.out.trans (HK.out.trans L.rel)) j hj) ?_
     ·clear L
      generalize a1.eval = ρ at e0 e1 hf ⊢
      unfold execOp
      go_simp
     ·rintro e w' ⟨rfl, hk⟩
      exact ⟨_, rfl, hk, by rw [HZ.out]; rfl⟩
    ·have hb := HB2.out.keep (HK.out.trans L.rel) trivial
     exact kp_lG hb.s hb.f hb.e rfl (L.o 3)
    ·exact kp_move rfl (L.o 7)
    ·have e0 : a1.eval (.tmp 24) = .int .i64 (j : Int) := L.v 5 24
     have hcn : a1.eval (.const (.int .i64 1)) = .int .i64 1 := rfl
     have hw1 : IntKind.i64.wrap ((j : Int) + 1) = (j : Int) + 1 := by rw [IntKind.wrap_i64]; omega
     refine kp_yield (v := .int .i64 ((j : Int) + 1)) (w' := w3) ?_ (Keeps.refl _ _) rfl
     clear L
     generalize a1.eval = ρ at e0 hcn ⊢
     unfold execOp
     go_simp
    ·have e0 : a1.eval (.tmp 23) = .agg #[.int .i64 (sg.slot : Int), .int .i64 (sg.first : Int), E] := L.v 4 23
     have e1 : a1.eval (.tmp 25) = .int .i64 ((j : Int) + 1) := L.v 6 25
     have hf : a1.eval (.func 149) = .func (.func 149) #[] #[] := rfl
     have hc := HST.out w3 (HK2.out.trans (HK.out.trans L.rel)) (j + 1) hlt
     rw [show ((j + 1 : Nat) : Int) = (j : Int) + 1 by omega] at hc
     refine kp_enter (f := 149) (args := #[.agg #[.int .i64 (sg.slot : Int), .int .i64 (sg.first : Int), E], .int .i64 ((j : Int) + 1)]) ?_ hc ?_
     ·clear L hc
      generalize a1.eval = ρ at e0 e1 hf ⊢
      unfold execOp
      go_simp
     ·rintro e w' ⟨rfl, hk⟩
      exact ⟨_, rfl, hk, by rw [HZ1.out]; rfl⟩
    ·have e0 : a1.eval (.tmp 19) = .slice (some ⟨g, 0, none⟩) sg.text.length c := L.v 0 19
     have e1 : a1.eval (.tmp 22) = .int .i64 (z : Int) := L.v 3 22
     have e2 : a1.eval (.tmp 26) = .int .i64 (z1 : Int) := L.v 7 26
     have hf : a1.eval (.func 150) = .func (.func 150) #[] #[] := rfl
     have hrel := L.rel
     refine kp_enter (f := 150) (args := #[.slice (some ⟨g, 0, none⟩) sg.text.length c, .int .i64 (z : Int), .int .i64 (z1 : Int)]) ?_ (cut_any w3 g 0 c _ z z1 _ sg.text y (HRT2.out.keep ((HK.out.trans L.rel).mono fun _ _ _ => trivial)) rfl hroom.1 hroom.2 hzz hzl HREC.out HB3.out) ?_
     ·clear L
      generalize a1.eval = ρ at e0 e1 e2 hf ⊢
      unfold execOp
      go_simp
     ·rintro e w' ⟨b, rfl, ⟨A, cc, e, h1, h2, hr, -⟩, hk⟩
      exact ⟨_, rfl, hk, b, rfl, A, cc, e, h1, h2, hr.mono fun b _ hb => Nat.le_trans hrel.size hb.1⟩
    ·exact kp_mvP rfl (L.v 8 27)
    ·obtain ⟨b, e0, hb⟩ := L.v 9 18
     refine kp_yield (v := b) (w' := w3) ?_ (Keeps.refl _ _) hb
     clear L hb
     generalize a1.eval = ρ at e0 ⊢
     unfold execOp
     go_simp
    ·obtain ⟨b, e0, hb⟩ := L.v 9 18
     refine kp_yield (v := .bool true) (w' := w3) ?_ (Keeps.refl _ _) rfl
     clear L hb
     generalize a1.eval = ρ at e0 ⊢
     unfold execOp
     go_simp
    ·exact kp_asP rfl (L.v 10 28)
    ·exact kp_assign rfl (L.v 11 29)
   ·intro vs w4 hk4 hlen4 hv
    match vs, hlen4 with
    | [v0, v1, v2, v3, v4, v5, v6, v7, v8, v9, v10, v11, v12, v13], _ =>
     obtain ⟨A, cA, e12, hl1, hl2, hr12⟩ : PB wr.heap.size y w4 v12 := hv 12 8 (by kernel_rfl)
     have e13 : v13 = .bool true := hv 13 9 (by kernel_rfl)
     clear hv
     subst e12 e13
     simp only [putAll, List.map, Act.put, List.setIfInBounds_toArray, List.set_cons_succ, List.set_cons_zero, Exit.then]
     have hb4 := HB2.out.keep (HK.out.trans hk4) trivial
     have c1 := hb4.f
     have HRR4 := Hd (HRR.out.keep hk4)
     have HK4 := Hd (HK.out.trans hk4)
     have HRB := Hd hr12
     have HFIT := Hd (show (bcells y).length ≤ cA ∧ cA ≤ maxLen from ⟨by rw [bcells_len]; exact hl1, hl2⟩)
     have hz4 := HK4.out.size
     obtain ⟨vs0, hv1, hv2, hv3⟩ := HRR4.out.ex
     have HV1 := Hd hv1
     have HV2 := Hd hv2
     have HV3 := Hd hv3
     have hz44 := hk4.size
     have hz2r := HK.out.size
     have hown2 : ∀ b, u.ownBlock = some b → b < wr.heap.size := fun b hb => by
      obtain ⟨vs1, q1, q2, q3⟩ := HRR.out.ex
      exact (q2.lt b hb).2
     have HOB := Hd hown2
     rw [hjl] at HV2
     have hsr := Hd (fun W : World => src_rec1 W (sg.first + j) (.slice A y.length cA) rfl)
     have hpe : ((sg.first + j : Nat) : Int) = (sg.first : Int) + (j : Int) := by omega
     rw [hpe] at hsr
     have hcz : w2.heap.size ≤ (w4.alloc (.cells #[.int .i64 ((sg.first : Int) + (j : Int)), .slice A y.length cA] 172)).heap.size := by simp; omega
     clear hb4 hk4 hv1 hv2 hv3 hr12 HRR HK hown2
     go_wp2_with (at_builtin; refine rec_elem.list_append rfl (.tmp 31) (.tmp 38) _ rfl rfl (HV2.out.alloc _) rfl (hsr.out w4) ?c3 ?c4 hcz ?_)
     case c3 => unfold maxLen; omega
     case c4 => omega
     intro v5 w5 ho5 hg5 hb5
     have hown4 := HV2.out
     have hg5' := grown_of_alloc hg5
     have hb5' : v5.ownBlock = u.ownBlock ∨ v5.ownBlock = some (w4.alloc (.cells #[.int .i64 ((sg.first : Int) + (j : Int)), .slice A y.length cA] 172)).heap.size := by rw [World.size_alloc]; exact hb5
     have HR5 := Hd (show RecRow w5 w2.heap.size v5 ((sg.recs.map LRec.key).take (j + 1)) from by
      rw [HTK.out]
      refine RecRow.put (w := w4.alloc (.cells #[.int .i64 ((sg.first : Int) + (j : Int)), .slice A y.length cA] 172)) (v := u) (vs := vs0) (us := [.slice A y.length cA]) HV1.out (by rw [hjl]; exact HV2.out.alloc _) (fun k hk => ?_) rfl (fun k hk => ?_) ?_ hg5 hb5'
      ·obtain ⟨B, cc, e, hr⟩ := HV3.out k hk
       exact ⟨B, cc, e, hr.alloc _⟩
      ·obtain rfl : k = 0 := by simpa using hk
       exact ⟨A, cA, rfl, ⟨(HRB.out.alloc _).mono fun b _ hb => ⟨by omega, fun e => by have := HOB.out b e; omega⟩, HFIT.out⟩⟩
      ·rw [hjl]
       have e : recC [(sg.first + j, y)] [.slice A y.length cA] = [.int .i64 ((sg.first : Int) + (j : Int)), .slice A y.length cA] := by
        simp only [recC]; rw [hpe]
       rw [e]
       exact ho5)
     have HK5 := Hd (show Kp w2 w5 from HK4.out.grown hg5' fun b hb => (hown4.lt b hb).1)
     clear ho5 hg5 hb5 hg5' hb5' hown4 HV1 HV2 HV3 HRR4 HK4
     go_wp2_with fail
     go_roundw
     case rel => exact ⟨j + 1, _, by omega, by go_num, rfl, HR5.out, HK5.out⟩
     case measure => simp [intOf]; omega
  ·obtain rfl : j = sg.recs.length := by omega
   rw [List.take_of_length_le (by rw [hkl]; exact Nat.le_refl _)] at hrr
   have H1 := Hd (hrr.from (b0 := w.heap.size) HK2.out.size)
   have H2 := Hd (HK2.out.trans hkp)
   clear hrr hkp
   go_wp2_with fail
   go_ret
   exact ⟨_, rfl, H1.out, H2.out⟩
theorem seg_elem : Elem Tryz.prog 135 179 (.agg #[.int .i64 0, .int .i64 0, .slice none 0 0]) 3 40 := ⟨Tryz.underlying135, by kernel_rfl, rfl, by decide⟩
def Seg.cells (s : Seg) (E : Value) : List Value := [.int .i64 (s.slot : Int), .int .i64 (s.first : Int), E]
def segC : List Seg → List Value → List Value
 | s :: ks, E :: Es => s.cells E ++ segC ks Es
 | _, _ => []
theorem segC_append (ks : List Seg) (Es : List Value) (ls : List Seg) (Ls : List Value) (h : Es.length = ks.length) : segC (ks ++ ls) (Es ++ Ls) = segC ks Es ++ segC ls Ls := by
 induction ks generalizing Es with
 | nil => cases Es with
  | nil => rfl
  | cons v vs => cases h
 | cons p ps ih => cases Es with
  | nil => cases h
  | cons v vs => simp only [List.cons_append, segC]; rw [ih vs (by simpa using h)]; simp [Seg.cells]
theorem segC_len (ks : List Seg) (Es : List Value) (h : Es.length = ks.length) : (segC ks Es).length = ks.length * 3 := by
 induction ks generalizing Es with
 | nil => cases Es with
  | nil => rfl
  | cons v vs => cases h
 | cons p ps ih => cases Es with
  | nil => cases h
  | cons v vs => simp only [segC, List.length_append, List.length_cons, Seg.cells]; rw [ih vs (by simpa using h)]; simp; omega
theorem segC_at (ks : List Seg) (Es : List Value) (h : Es.length = ks.length) (j t : Nat) (hj : j < ks.length) (ht : t < 3) : (segC ks Es)[j * 3 + t]? = ((ks[j]).cells (Es[j]'(by omega)))[t]? := by
 induction ks generalizing Es j with
 | nil => simp at hj
 | cons p ps ih => cases Es with
  | nil => cases h
  | cons v vs => cases j with
   | zero => simp only [segC, Nat.zero_mul, Nat.zero_add, List.getElem_cons_zero]; rw [List.getElem?_append_left (by simp [Seg.cells]; omega)]
   | succ j =>
    have := ih vs (by simpa using h) j (by simpa using hj)
    simp only [segC, List.getElem_cons_succ]
    rw [List.getElem?_append_right (by simp [Seg.cells]; omega)]
    rw [← this]
    congr 1
    simp [Seg.cells]; omega
def SegsAt (w : World) (A : Option Addr) (G : Nat → Prop) (ks : List Seg) : Prop := ∀ k (h : k < ks.length), ∃ b o E, A = some ⟨b, o, none⟩ ∧ G b ∧ w.cell? ⟨b, o + k * 3, none⟩ = some (.int .i64 ((ks[k]).slot : Int)) ∧
 w.cell? ⟨b, o + k * 3 + 1, none⟩ = some (.int .i64 ((ks[k]).first : Int)) ∧ w.cell? ⟨b, o + k * 3 + 2, none⟩ = some E ∧ SegV w G ks[k] E
theorem SegsAt.keep {w w' : World} {A : Option Addr} {G : Nat → Prop} {ks : List Seg} (h : SegsAt w A G ks) (hk : Keeps G w w') : SegsAt w' A G ks := fun k hl => by
 obtain ⟨b, o, E, e, hG, c0, c1, c2, hE⟩ := h k hl
 exact ⟨b, o, E, e, hG, hk.cell c0 hG, hk.cell c1 hG, hk.cell c2 hG, hE.keep hk⟩
def LBlk (w : World) (q p i n : Nat) (K : Value) (sl left : Nat) (T : Value) (nx : Nat) : Prop :=
 w.heap[q]? = some (.cells #[.pointer (some ⟨p, 0, none⟩), .int .i64 (i : Int), .int .i64 (n : Int), K, .int .i64 (sl : Int), .int .i64 (left : Int), T, .int .i64 (nx : Int)] 137 (0, 0))
theorem LBlk.keep {w w' : World} {q p i n sl left nx : Nat} {K T : Value} {G : Nat → Prop} (h : LBlk w q p i n K sl left T nx) (hk : Keeps G w w') (hG : G q) : LBlk w' q p i n K sl left T nx := by
 have hlt : q < w.heap.size := (Array.getElem?_eq_some_iff.1 h).1
 exact (hk.block q hG hlt).trans h
theorem LBlk.head {w : World} {q p i n sl left nx : Nat} {K T : Value} (h : LBlk w q p i n K sl left T nx) : LHead w q p i n := ⟨(cell_of_block h 0).trans rfl, (cell_of_block h 1).trans rfl, (cell_of_block h 2).trans rfl⟩
structure EndsOwn (w : World) (X : Nat → Prop) (ks : List Seg) (Es : List Value) : Prop where
 len : Es.length = ks.length
 own : ∀ j (hj : j < ks.length), w.ownsRow 0 3 1 (Es[j]'(by omega)) (ks[j]).recs.length (endsC (ks[j]).recs)
 out : ∀ E ∈ Es, ∀ b, E.ownBlock = some b → ¬ X b
 two : Es.Pairwise ApartV
structure LogAt (w : World) (q : Nat) (F : Foot) (p i n : Nat) (ks : List Seg) (sl left nx : Nat) (tl : List UInt8) (K T : Value) (Es : List Value) : Prop where
 blk : LBlk w q p i n K sl left T nx
 row : w.ownsRow 0 179 3 K ks.length (segC ks Es)
 ends : EndsOwn w (fun b => b = q ∨ K.ownBlock = some b) ks Es
 kq : ∀ b, K.ownBlock = some b → b ≠ q
 tail : ∃ A c, T = .slice A tl.length c ∧ tl.length ≤ c ∧ c ≤ maxLen ∧ Row w A F.I (bcells tl)
 mq : F.M q
 mkk : ∀ b, K.ownBlock = some b → F.M b
 me : ∀ E ∈ Es, ∀ b, E.ownBlock = some b → F.M b
 lt : ∀ b, F.all b → b < w.heap.size
 apart : ∀ b, F.M b → ¬ F.I b
section
variable {w w' : World} {q p i n sl left nx : Nat} {F : Foot} {ks : List Seg} {tl : List UInt8} {K T : Value} {Es : List Value}
theorem EndsOwn.keep {X G : Nat → Prop} (h : EndsOwn w X ks Es) (hk : Keeps G w w') (hG : ∀ E ∈ Es, ∀ b, E.ownBlock = some b → G b) : EndsOwn w' X ks Es :=
 ⟨h.len, fun j hj => hk.own (h.own j hj) fun b hb => hG _ (List.getElem_mem (by have := h.len; omega)) b hb, h.out, h.two⟩
theorem LogAt.keep (h : LogAt w q F p i n ks sl left nx tl K T Es) (hk : Keeps F.all w w') : LogAt w' q F p i n ks sl left nx tl K T Es := by
 obtain ⟨A, c, e, h1, h2, hr⟩ := h.tail
 exact ⟨h.blk.keep hk (.inl h.mq), hk.own h.row fun b hb => .inl (h.mkk b hb), h.ends.keep hk fun E hE b hb => .inl (h.me E hE b hb), h.kq, ⟨A, c, e, h1, h2, hr.keep (hk.mono fun _ _ hb => .inr hb)⟩, h.mq, h.mkk, h.me, fun b hb => Nat.lt_of_lt_of_le (h.lt b hb) hk.size, h.apart⟩
theorem LogAt.head (h : LogAt w q F p i n ks sl left nx tl K T Es) : LHead w q p i n := h.blk.head
theorem LogAt.segs (h : LogAt w q F p i n ks sl left nx tl K T Es) : ∃ A c, K = .slice A ks.length c ∧ ks.length ≤ c ∧ c ≤ maxLen ∧ SegsAt w A F.M ks := by
 have hl := h.ends.len
 rcases Nat.eq_zero_or_pos ks.length with h0 | hp
 ·rcases h.row.2 with ⟨e, -⟩ | ⟨g, cap, cur, e, -, -, h1, h2, -⟩
  ·exact ⟨none, 0, by rw [e, h0], by omega, by decide, fun k hk => by omega⟩
  ·exact ⟨_, cap, e, h1, h2, fun k hk => by omega⟩
 ·obtain ⟨g, c, e, hb, hlt⟩ := h.row.form hp
  have hrow := h.row
  rw [e] at hrow
  have hroom := own_room hrow
  refine ⟨_, c, e, hroom.1, hroom.2, fun k hk => ?_⟩
  have hc : ∀ t, t < 3 → w.cell? ⟨g, 0 + k * 3 + t, none⟩ = ((ks[k]).cells (Es[k]'(by omega)))[t]? := fun t ht => by
   have h1 := segC_at ks Es hl k t hk ht
   have hv : ∃ v, ((ks[k]).cells (Es[k]'(by omega)))[t]? = some v := ⟨_, List.getElem?_eq_getElem (by simp [Seg.cells]; omega)⟩
   obtain ⟨v, hv⟩ := hv
   rw [hv] at h1 ⊢
   have := hrow.cells (g := g) rfl _ v h1
   rw [WideShapes.add_plain] at this
   rw [show 0 + k * 3 + t = 0 + (k * 3 + t) by omega]
   exact this
  refine ⟨g, 0, _, rfl, h.mkk g (by rw [e]; rfl), hc 0 (by omega), hc 1 (by omega), hc 2 (by omega), ?_⟩
  have ho := h.ends.own k hk
  obtain ⟨A2, c2, e2, -, hr2⟩ := own_slice ho
  refine ⟨A2, c2, e2, ?_⟩
  intro hne
  obtain ⟨b, o, e3, hb3, hc3⟩ := hr2 hne
  refine ⟨b, o, e3, h.me (Es[k]'(by omega)) (List.getElem_mem _) b ?_, hc3⟩
  have hp2 : 0 < (ks[k]).recs.length := by have := List.length_pos_iff.2 hne; rwa [endsC_len] at this
  obtain ⟨g3, c4, e4, -⟩ := ho.form hp2
  rw [e4] at e2 ⊢
  injection e2 with e5
  rw [e3] at e5
  injection e5 with e6
  injection e6 with e7
  rw [← e7]; rfl
end
theorem lfirst_any (w : World) (q : Nat) (F : Foot) (p i n : Nat) (ks : List Seg) (sl left nx : Nat) (tl : List UInt8) (K T : Value) (Es : List Value) (h : LogAt w q F p i n ks sl left nx tl K T Es) :
  Calls Tryz.prog 70 #[.pointer (some ⟨q, 0, none⟩)] w fun e w' => e = .returned (.int .i64 ((match ks with | [] => nx | s :: _ => s.first : Nat) : Int)) ∧ w = w' := by
 have HDN := Hd (down_no w q p i n h.head)
 obtain ⟨A, c, rfl, hlc, hcm, hs⟩ := h.segs
 unfold maxLen at hcm
 have c3 := (cell_of_block h.blk 3).trans rfl
 have c7 := (cell_of_block h.blk 7).trans rfl
 cases ks with
 | nil =>
  simp only [List.length_nil] at c3 ⊢
  clear h hs
  go_enter Tryz.func70, Tryz.ntmps70
  go_wp2_with fail
  refine HDN.out.mono ?_
  rintro e w' ⟨rfl, rfl⟩
  go_wp2_with fail
  go_ret
  exact ⟨rfl, rfl⟩
 | cons s ks =>
  obtain ⟨b, o, E, rfl, -, -, c1, -, -⟩ := hs 0 (by simp)
  simp only [List.getElem_cons_zero, Nat.zero_mul, Nat.add_zero, List.length_cons] at c1 c3 hlc ⊢
  have hd : ((((ks.length + 1 : Nat) : Int)) == 0) = false := by simp; omega
  have hlt : (0 : Int) < ((ks.length + 1 : Nat) : Int) := by omega
  clear h hs
  generalize ks.length + 1 = m at c3 hd hlt hlc
  go_enter Tryz.func70, Tryz.ntmps70
  go_wp2_with fail
  refine HDN.out.mono ?_
  rintro e w' ⟨rfl, rfl⟩
  go_wp2_with fail
  go_ret
  exact ⟨rfl, rfl⟩
theorem lnext_any (w : World) (q : Nat) (F : Foot) (p i n : Nat) (ks : List Seg) (sl left nx : Nat) (tl : List UInt8) (K T : Value) (Es : List Value) (h : LogAt w q F p i n ks sl left nx tl K T Es) :
  Calls Tryz.prog 52 #[.pointer (some ⟨q, 0, none⟩)] w fun e w' => e = .returned (.int .i64 (nx : Int)) ∧ w = w' := by
 have HDN := Hd (down_no w q p i n h.head)
 have c7 := (cell_of_block h.blk 7).trans rfl
 clear h
 go_enter Tryz.func52, Tryz.ntmps52
 go_wp2_with fail
 refine HDN.out.mono ?_
 rintro e w' ⟨rfl, rfl⟩
 go_wp2_with fail
 go_ret
 exact ⟨rfl, rfl⟩
theorem lflush_any (w : World) (q : Nat) (Fs : Foot) (p i n : Nat) (ks : List Seg) (sl left nx : Nat) (tl : List UInt8) (K T : Value) (Es : List Value) (h : LogAt w q Fs p i n ks sl left nx tl K T Es) (F : Foot) (s : SDev) (hd : DAt w p F s) (hcalls : s.calls ≤ 1099511627776) :
  Calls Tryz.prog 46 #[.pointer (some ⟨q, 0, none⟩)] w fun e w' => e = .returned (.int .i64 0) ∧ ∃ F', DAt w' p F' s.flush ∧ Step F F' w w' := by
 have HDN := Hd (down_no w q p i n h.head)
 have c0 := h.head.d
 have HF := Hd (dflush_any w p F s hd hcalls)
 clear h hd
 go_enter Tryz.func46, Tryz.ntmps46
 go_wp2_with fail
 refine HDN.out.mono ?_
 rintro e w' ⟨rfl, rfl⟩
 go_wp2_with fail
 refine HF.out.mono ?_
 rintro e w' ⟨rfl, hx⟩
 have HX := Hd hx
 clear hx
 go_wp2_with fail
 go_ret
 exact ⟨rfl, HX.out⟩
end Go.Proofs.YticophaepapjoaaGreatDoor
namespace Go.Proofs.YticophaepapjoaaGreatDoor
open Go Go.RowKit Go.Joins Go.Sort
theorem row_put {w : World} {base n c g size k : Nat} {e : TypeId} {xs : List Value} (F : Array Value) (h : w.ownsRow base e size (.slice (some ⟨g, 0, none⟩) n c) n xs) (hF : F.size = xs.length) :
  (putRow id (Go.Sort.ahead w k) g 0 F).ownsRow base e size (.slice (some ⟨g, 0, none⟩) n c) n F.toList ∧ w.grownBy (putRow id (Go.Sort.ahead w k) g 0 F) (some g) := by
 refine ⟨?_, ⟨rfl, rfl, rfl, by simp [putRow, mapBlock, Go.Sort.ahead], fun j hj hne => by
  have : g ≠ j := fun e => hne (by rw [e])
  simp [putRow, mapBlock, Go.Sort.ahead, Array.getElem?_modify, this]⟩⟩
 rcases h.2 with ⟨e0, _⟩ | ⟨g', cap', cur, e0, hb, hg, hn, hm, hs, ht⟩
 ·cases e0
 ·injection e0 with e1 _ e3
  injection e1 with e1
  injection e1 with e1
  subst e1; subst e3
  have hxs : xs.length = n * size := h.1
  have hle : n * size ≤ cur.size := by rw [hs]; exact Nat.mul_le_mul_right _ hn
  refine ⟨by rw [Array.length_toList, hF, hxs], .inr ⟨g, c, putCells id 0 F cur, rfl, hb, ?_, hn, hm, by simpa [putCells] using hs, ?_⟩⟩
  ·simp [putRow, mapBlock, Go.Sort.ahead, Array.getElem?_modify, hg, onCells]
  ·apply List.ext_getElem?
   intro j
   rw [List.getElem?_take, Array.getElem?_toList, Array.getElem?_toList]
   by_cases hj : j < n * size
   ·have hjc : j < cur.size := by omega
    have hjF : j < F.size := by omega
    simp only [if_pos hj, putCells, Array.getElem?_mapIdx, Array.getElem?_eq_getElem hjc, Option.map_some]
    rw [if_pos (by omega), Nat.sub_zero, Array.getElem?_eq_getElem hjF, getElem!_pos F j hjF]
    rfl
   ·rw [if_neg hj, Array.getElem?_eq_none (by omega)]
abbrev SegP := Seg × (Option Addr × Nat)
instance : Inhabited SegP := ⟨(⟨0, 0, []⟩, (none, 0))⟩
def SegP.E (x : SegP) : Value := .slice x.2.1 x.1.recs.length x.2.2
def SegP.enc (x : SegP) : List Value := x.1.cells x.E
def encP (d : List SegP) : List Value := d.flatMap SegP.enc
theorem encP_len (d : List SegP) : (encP d).length = d.length * 3 := by
 induction d with
 | nil => rfl
 | cons x d ih =>
  have e : encP (x :: d) = x.enc ++ encP d := rfl
  rw [e, List.length_append, ih, List.length_cons]
  simp [SegP.enc, Seg.cells]; omega
theorem encP_at (d : List SegP) (j : Nat) (hj : j < d.length) (t : Nat) (ht : t < 3) : (encP d)[j * 3 + t]? = ((d[j]).enc)[t]? := by
 induction d generalizing j with
 | nil => simp at hj
 | cons x d ih =>
  have e : encP (x :: d) = x.enc ++ encP d := rfl
  have hx : x.enc.length = 3 := by simp [SegP.enc, Seg.cells]
  cases j with
  | zero => rw [e, Nat.zero_mul, Nat.zero_add, List.getElem?_append_left (by omega)]; rfl
  | succ j =>
   rw [e, List.getElem?_append_right (by omega), hx, show (j + 1) * 3 + t - 3 = j * 3 + t by omega, ih j (by simpa using hj)]
   rfl
theorem segC_encP (d : List SegP) : segC (d.map Prod.fst) (d.map SegP.E) = encP d := by
 induction d with
 | nil => rfl
 | cons x d ih => simp only [List.map_cons, segC, ih]; rfl
theorem flatK_encP (d : List SegP) : (flatK SegP.enc 3 d.toArray).toList = encP d := by
 apply List.ext_getElem?
 intro j
 have hs : (flatK SegP.enc 3 d.toArray).size = d.length * 3 := by simp [flatK]
 by_cases hj : j < d.length * 3
 ·have hd : j / 3 < d.length := by omega
  rw [Array.getElem?_toList, Array.getElem?_eq_getElem (by omega)]
  have h1 := encP_at d (j / 3) hd (j % 3) (Nat.mod_lt _ (by omega))
  rw [show j / 3 * 3 + j % 3 = j by omega] at h1
  rw [h1]
  have hl : (d[j / 3]).enc.length = 3 := by simp [SegP.enc, Seg.cells]
  rw [List.getElem?_eq_getElem (by rw [hl]; exact Nat.mod_lt _ (by omega))]
  congr 1
  have e := get_flatK SegP.enc 3 d.toArray j (by simpa using hj)
  rw [getElem!_pos _ j (by omega)] at e
  rw [e, getElem!_pos d.toArray (j / 3) (by simpa using hd)]
  have e2 : d.toArray[j / 3]'(by simpa using hd) = d[j / 3] := by simp
  rw [e2, getElem!_pos _ (j % 3) (by rw [hl]; exact Nat.mod_lt _ (by omega))]
 ·rw [Array.getElem?_toList, Array.getElem?_eq_none (by omega), List.getElem?_eq_none (by rw [encP_len]; omega)]
theorem reverse_any (w : World) (g c n : Nat) (d : List SegP) (hn : n = d.length) (h : w.ownsRow 0 179 3 (.slice (some ⟨g, 0, none⟩) n c) n (encP d)) (hsz : d.length ≤ 4096) :
  Calls Tryz.prog 193 #[.slice (some ⟨g, 0, none⟩) n c] w fun e w' => e = .returned (.tuple #[]) ∧ w'.ownsRow 0 179 3 (.slice (some ⟨g, 0, none⟩) n c) n (encP d.reverse) ∧ w.grownBy w' (some g) := by
 subst hn
 have hH : HoldsK SegP.enc 3 w g 0 d.toArray := by
  intro j hj
  have hs : (flatK SegP.enc 3 d.toArray).size = d.length * 3 := by simp [flatK]
  have e := flatK_encP d
  have hv : (encP d)[j]? = some ((flatK SegP.enc 3 d.toArray)[j]!) := by
   rw [← e, Array.getElem?_toList, Array.getElem?_eq_getElem hj, getElem!_pos _ j hj]
  have hc := h.cells (g := g) rfl j _ hv
  rw [WideShapes.add_plain] at hc
  exact ⟨hc, h.frozenAt (0 + j)⟩
 have hr := AnyQ.slices_Reverse Tryz.reverseA 3 Tryz.isAgg179 Tryz.sizeOf179 SegP.enc (fun _ => rfl) (fun x v hv => by
  simp only [SegP.enc, Seg.cells, SegP.E, List.mem_cons, List.not_mem_nil, or_false] at hv
  rcases hv with rfl | rfl | rfl <;> rfl) g 0 c d.toArray w hH (by simp; omega)
 rw [show d.toArray.size = d.length by simp] at hr
 refine (show Calls _ _ _ _ _ from hr).mono ?_
 rintro e w' ⟨rfl, k, rfl⟩
 have hF : (flatK SegP.enc 3 d.toArray.reverse).toList = encP d.reverse := by
  have := flatK_encP d.reverse
  simpa using this
 have := row_put (k := k) (flatK SegP.enc 3 d.toArray.reverse) h (by rw [encP_len]; simp [flatK])
 rw [hF] at this
 exact ⟨rfl, this.1, this.2⟩
end Go.Proofs.YticophaepapjoaaGreatDoor
