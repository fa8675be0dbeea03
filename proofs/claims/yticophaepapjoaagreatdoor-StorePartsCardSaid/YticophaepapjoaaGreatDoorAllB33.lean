/-
  SlgDelete, SlgReads: texts of mine, joined.
-/
import Derived.Test.YticophaepapjoaaGreatDoorAllB32
open Go.Lib renaming hid → Hd
set_option maxRecDepth 100000
set_option maxHeartbeats 8000000
namespace Go.Proofs.YticophaepapjoaaGreatDoor
open Go Go.RowKit Go.Joins
theorem same_any (w : World) (b3 a y f : Nat) (E : Value) (_hE : E.oneCell' = true) (hc : w.cell? ⟨b3, 0, none⟩ = some (.int .i64 (y : Int))) (r : Bool) (hr : ((a : Int) == (y : Int)) = r) :
  Calls Tryz.prog 133 #[.agg #[.int .i64 (a : Int), .int .i64 (f : Int), E], .pointer (some ⟨b3, 0, none⟩)] w fun e w' => e = .returned (.bool r) ∧ Kp w w' := by
 have hlt := World.block_lt_of_cell? w _ hc
 simp only at hlt
 have hc2 : ∀ o, (w.alloc o).cell? ⟨b3, 0, none⟩ = some (.int .i64 (y : Int)) := fun o => ((Keeps.refl (fun _ => True) w).alloc o).cell hc trivial
 go_enter Tryz.func133, Tryz.ntmps133
 go_wp2
 go_ret
 exact ⟨rfl, (Keeps.refl _ _).alloc _⟩
section
variable (w : World) (A : Option Addr) (c b3 y : Nat) (G : Nat → Prop) (ks : List Seg)
theorem index_none (hs : SegsAt w A G ks) (hy : w.cell? ⟨b3, 0, none⟩ = some (.int .i64 (y : Int))) (hl : ks.length ≤ 4096) (hne : ∀ k (h : k < ks.length), (ks[k]).slot ≠ y) :
  Calls Tryz.prog 170 #[.slice A ks.length c, .func (.func 133) #[] #[.pointer (some ⟨b3, 0, none⟩)]] w fun e w' => e = .returned (.int .i64 (-1)) ∧ Kp w w' := by
 have HS := Hd hs
 have HY := Hd hy
 have HN := Hd hne
 clear hs hy hne
 go_enter Tryz.func170, Tryz.ntmps170
 go_wp2_with fail
 go_loopw [8] (fun vk wr => ∃ k : Nat, k ≤ ks.length ∧ vk = .int .i64 k ∧ Kp w wr) (fun vk _ => ks.length - (intOf vk).toNat)
 case atStart => exact ⟨0, Nat.zero_le _, rfl, Keeps.refl _ _⟩
 case round =>
  obtain ⟨k, hk, rfl, hkp⟩ := hrel
  by_cases hlt : k < ks.length
  ·obtain ⟨b, o, E, rfl, hbM, d0, d1, d2, hE⟩ := (HS.out.keep (hkp.mono fun _ _ _ => trivial)) k hlt
   obtain ⟨AE, cE, rfl, -⟩ := hE.ex
   have hc := Hd (same_any wr b3 (ks[k]).slot y (ks[k]).first (.slice AE (ks[k]).recs.length cE) rfl (hkp.cell HY.out trivial) false (by have := HN.out k hlt; simp; omega))
   have HK := Hd hkp
   clear hE hkp
   generalize ks[k] = sg at d0 d1 d2 hc
   go_wp2_with fail
   refine hc.out.mono ?_
   rintro e w1 ⟨rfl, hk1⟩
   have HK1 := Hd (HK.out.trans hk1)
   clear hk1
   go_wp2_with fail
   go_roundw
   case rel => exact ⟨k + 1, by omega, by go_num, HK1.out⟩
   case measure => simp [intOf]; omega
  ·obtain rfl : k = ks.length := by omega
   have HK := Hd hkp
   clear hkp
   go_wp2_with fail
   go_ret
   exact ⟨rfl, HK.out⟩
theorem index_zero (hs : SegsAt w A G ks) (hy : w.cell? ⟨b3, 0, none⟩ = some (.int .i64 (y : Int))) (hl : ks.length ≤ 4096) (hp : 0 < ks.length) (he : (ks[0]).slot = y) :
  Calls Tryz.prog 170 #[.slice A ks.length c, .func (.func 133) #[] #[.pointer (some ⟨b3, 0, none⟩)]] w fun e w' => e = .returned (.int .i64 0) ∧ Kp w w' := by
 have HS := Hd hs
 have HY := Hd hy
 have HE := Hd he
 clear hs hy he
 go_enter Tryz.func170, Tryz.ntmps170
 go_wp2_with fail
 go_loopw [8] (fun vk wr => vk = .int .i64 0 ∧ Kp w wr) (fun vk _ => 0)
 case atStart => exact ⟨rfl, Keeps.refl _ _⟩
 case round =>
  obtain ⟨rfl, hkp⟩ := hrel
  obtain ⟨b, o, E, rfl, hbM, d0, d1, d2, hE⟩ := (HS.out.keep (hkp.mono fun _ _ _ => trivial)) 0 hp
  obtain ⟨AE, cE, rfl, -⟩ := hE.ex
  have hc := Hd (same_any wr b3 (ks[0]).slot y (ks[0]).first (.slice AE (ks[0]).recs.length cE) rfl (hkp.cell HY.out trivial) true (by rw [HE.out]; simp))
  have HK := Hd hkp
  simp only [Nat.zero_mul, Nat.add_zero] at d0 d1 d2
  clear hE hkp HE
  generalize ks[0] = sg at d0 d1 d2 hc
  have hp' : (0 : Int) < (ks.length : Int) := by omega
  go_wp2_with fail
  refine hc.out.mono ?_
  rintro e w1 ⟨rfl, hk1⟩
  have HK1 := Hd (HK.out.trans hk1)
  clear hk1
  go_wp2_with fail
  go_ret
  exact ⟨rfl, HK1.out⟩
theorem delete_none (hs : SegsAt w A G ks) (hy : w.cell? ⟨b3, 0, none⟩ = some (.int .i64 (y : Int))) (hl : ks.length ≤ 4096) (hne : ∀ k (h : k < ks.length), (ks[k]).slot ≠ y) :
  Calls Tryz.prog 132 #[.slice A ks.length c, .func (.func 133) #[] #[.pointer (some ⟨b3, 0, none⟩)]] w fun e w' => e = .returned (.slice A ks.length c) ∧ Kp w w' := by
 have HI := Hd (index_none w A c b3 y G ks hs hy hl hne)
 clear hs hy hne
 go_enter Tryz.func132, Tryz.ntmps132
 go_wp2_with fail
 refine HI.out.mono ?_
 rintro e w1 ⟨rfl, hk1⟩
 have HK1 := Hd hk1
 clear hk1
 go_wp2_with fail
 go_ret
 exact ⟨rfl, HK1.out⟩
end
theorem list_clear {P : Program} {w : World} {ops : Array Oper} {rest : List Oper} {o : Oper} {a : Act} {Q : Exit → Act → World → Prop} {base n c g size : Nat} {e : TypeId} {xs : List Value} (hgd : o.guard = none) (x : Operand) (t : TypeId) (ho : o.op = .call { callee := .builtin .clear, args := #[x], argTypes := #[t] }) (hu : P.underlying t = some (.slice e)) (z : Value) (hz : ∀ w, (zeroValue e).run P w = .ok z w)
  (hown : w.ownsRow base e size (.slice (some ⟨g, 0, none⟩) n c) n xs) (j cc : Nat) (hx : a.eval x = .slice (some ⟨g, j, none⟩) 1 cc) (cs : List Value) (hcs : (Builtin.zeroCells z.cells 1).toList = cs) (hfit : j + cs.length ≤ xs.length) (h1 : ∀ v ∈ cs, v.oneCell' = true)
  (hK : ∀ w', w'.ownsRow base e size (.slice (some ⟨g, 0, none⟩) n c) n (xs.take j ++ cs ++ xs.drop (j + cs.length)) → w.grownBy w' (some g) → wpList P ops Q rest (a.put o.dst (.tuple #[])) w') : wpList P ops Q (o :: rest) a w := by
 obtain ⟨cur, hg, hl, h2, h3⟩ := own_splice hown j cs hfit
 have hst := run_storeCells_at P g j e cs 0 cur w hg (by simpa using hl) h1
 simp only [Nat.add_zero] at hst
 generalize w.setRow g (cur.toList.take j ++ cs ++ cur.toList.drop (j + cs.length)).toArray = w2 at hst h2 h3
 refine wpList_plain hgd fun K hh => ?_
 unfold Oper.wp execOp
 simp [ho, resolve, invoke, builtin, hx, Builtin.clear_, run_underlying hu, hz, hcs, hst, Result.andThen]
 exact hh _ _ (hK _ h2 h3)
def midP (d : List SegP) (i : Nat) : List Value := (encP d.tail).take (i * 3) ++ (encP d).drop (i * 3)
theorem encP_tail (x : SegP) (d : List SegP) : encP (x :: d) = x.enc ++ encP d := rfl
theorem midP_len (d : List SegP) (i : Nat) (h : i + 1 ≤ d.length) : (midP d i).length = d.length * 3 := by
 unfold midP
 rw [List.length_append, List.length_take, List.length_drop, encP_len, encP_len, List.length_tail]
 omega
theorem midP_zero (d : List SegP) : midP d 0 = encP d := by simp [midP]
theorem midP_at (d : List SegP) (i t : Nat) (h : i + 1 < d.length) (ht : t < 3) : (midP d i)[(i + 1) * 3 + t]? = ((d[i + 1]).enc)[t]? := by
 unfold midP
 have hl : ((encP d.tail).take (i * 3)).length = i * 3 := by rw [List.length_take, encP_len, List.length_tail]; omega
 rw [List.getElem?_append_right (by omega), hl, List.getElem?_drop, show i * 3 + ((i + 1) * 3 + t - i * 3) = (i + 1) * 3 + t by omega]
 exact encP_at d (i + 1) h t ht
theorem encP_take (d : List SegP) (i : Nat) (h : i < d.length) : (encP d).take ((i + 1) * 3) = (encP d).take (i * 3) ++ (d[i]).enc := by
 have hl : (d[i]).enc.length = 3 := by simp [SegP.enc, Seg.cells]
 apply List.ext_getElem?
 intro j
 rw [List.getElem?_take]
 by_cases h1 : j < i * 3
 ·rw [if_pos (by omega), List.getElem?_append_left (by rw [List.length_take, encP_len]; omega), List.getElem?_take, if_pos h1]
 ·rw [List.getElem?_append_right (by rw [List.length_take, encP_len]; omega), List.length_take, encP_len, show min (i * 3) (d.length * 3) = i * 3 by omega]
  by_cases h2 : j < (i + 1) * 3
  ·rw [if_pos h2, ← encP_at d i h (j - i * 3) (by omega), show i * 3 + (j - i * 3) = j by omega]
  ·rw [if_neg h2, List.getElem?_eq_none (by omega)]
theorem midP_next (d : List SegP) (i : Nat) (h : i + 1 < d.length) : (midP d i).take (i * 3) ++ (d[i + 1]).enc ++ (midP d i).drop (i * 3 + (d[i + 1]).enc.length) = midP d (i + 1) := by
 have hl : ((encP d.tail).take (i * 3)).length = i * 3 := by rw [List.length_take, encP_len, List.length_tail]; omega
 have h3 : (d[i + 1]).enc.length = 3 := by simp [SegP.enc, Seg.cells]
 have ht : d.tail[i]'(by rw [List.length_tail]; omega) = d[i + 1] := by rw [List.getElem_tail]
 have e1 : (midP d i).take (i * 3) = (encP d.tail).take (i * 3) := by unfold midP; rw [List.take_append_of_le_length (by omega), List.take_of_length_le (by omega)]
 have e2 : (midP d i).drop (i * 3 + 3) = (encP d).drop ((i + 1) * 3) := by
  unfold midP
  rw [List.drop_append, List.drop_eq_nil_of_le (by omega), List.nil_append, hl, List.drop_drop]
  congr 1; omega
 rw [h3, e1, e2]
 unfold midP
 rw [encP_take d.tail i (by rw [List.length_tail]; omega), ht]
theorem midP_last (d : List SegP) (i : Nat) (h : i + 1 = d.length) (cs : List Value) (_hcs : cs.length = 3) : ((midP d i).take (i * 3) ++ cs ++ (midP d i).drop (i * 3 + cs.length)).take (i * 3) = encP d.tail := by
 have hl : ((encP d.tail).take (i * 3)).length = i * 3 := by rw [List.length_take, encP_len, List.length_tail]; omega
 have e1 : (midP d i).take (i * 3) = (encP d.tail).take (i * 3) := by unfold midP; rw [List.take_append_of_le_length (by omega), List.take_of_length_le (by omega)]
 rw [e1, List.append_assoc, List.take_append_of_le_length (by omega), List.take_of_length_le (by omega), List.take_of_length_le (by rw [encP_len, List.length_tail]; omega)]
theorem own_shorter {w : World} {base n c g size m : Nat} {e : TypeId} {xs : List Value} (h : w.ownsRow base e size (.slice (some ⟨g, 0, none⟩) n c) n xs) (hm : m ≤ n) : w.ownsRow base e size (.slice (some ⟨g, 0, none⟩) m c) m (xs.take (m * size)) := by
 have hle : m * size ≤ n * size := Nat.mul_le_mul_right _ hm
 refine ⟨by rw [List.length_take, h.1]; omega, ?_⟩
 rcases h.2 with ⟨e0, _⟩ | ⟨g', cap', cur, e0, hb, hg, hn, hcm, hs, ht⟩
 ·cases e0
 ·injection e0 with e1 _ e3
  injection e1 with e1
  injection e1 with e1
  subst e1; subst e3
  exact .inr ⟨g, c, cur, rfl, hb, hg, by omega, hcm, hs, by rw [← ht, List.take_take, Nat.min_eq_left hle]⟩
theorem delete_first (w : World) (g c b3 y m : Nat) (d : List SegP) (hm : m = d.length) (ho : w.ownsRow 0 179 3 (.slice (some ⟨g, 0, none⟩) m c) m (encP d)) (hs : SegsAt w (some ⟨g, 0, none⟩) (fun _ => True) (d.map Prod.fst)) (hy : w.cell? ⟨b3, 0, none⟩ = some (.int .i64 (y : Int))) (hb3 : b3 ≠ g) (hl : d.length ≤ 4096) (hp : 0 < d.length)
  (he : (d[0]).1.slot = y) (hne : ∀ k (h : k < d.length), 0 < k → (d[k]).1.slot ≠ y) :
  Calls Tryz.prog 132 #[.slice (some ⟨g, 0, none⟩) m c, .func (.func 133) #[] #[.pointer (some ⟨b3, 0, none⟩)]] w fun e w' => e = .returned (.slice (some ⟨g, 0, none⟩) (m - 1) c) ∧
   w'.ownsRow 0 179 3 (.slice (some ⟨g, 0, none⟩) (m - 1) c) (m - 1) (encP d.tail) ∧ Keeps (fun b => b ≠ g) w w' := by
 have hroom := own_room ho
 have hcm := hroom.2
 unfold maxLen at hcm
 have hml : (d.map Prod.fst).length = m := by rw [List.length_map]; exact hm.symm
 have HI := Hd (show Calls Tryz.prog 170 #[.slice (some ⟨g, 0, none⟩) m c, .func (.func 133) #[] #[.pointer (some ⟨b3, 0, none⟩)]] w fun e w' => e = .returned (.int .i64 0) ∧ Kp w w' from by
  have h := index_zero w (some ⟨g, 0, none⟩) c b3 y _ _ hs hy (by rw [List.length_map]; exact hl) (by rw [List.length_map]; exact hp) (by rw [List.getElem_map]; exact he)
  rw [hml] at h
  exact h)
 have HO := Hd ho
 have HY := Hd hy
 have HN := Hd hne
 have HM := Hd hm
 have hgl := (ho.lt g rfl).2
 have hroom1 := hroom.1
 have hmd : m ≤ d.length ∧ d.length ≤ m := by omega
 clear ho hs hy he hne hroom hm hml
 go_enter Tryz.func132, Tryz.ntmps132
 go_wp2_with fail
 refine HI.out.mono ?_
 rintro e w1 ⟨rfl, hk1⟩
 have HK1 := Hd hk1
 clear hk1 HI
 go_wp2_with fail
 go_loopw [5, 6] (fun vi vj wr => ∃ i j : Nat, RowKit.Hid (j = i + 1) ∧ j ≤ m ∧ vi = .int .i64 i ∧ vj = .int .i64 j ∧ wr.ownsRow 0 179 3 (.slice (some ⟨g, 0, none⟩) m c) m (midP d i) ∧ Keeps (fun b => b ≠ g) w wr) (fun _ vj _ => m - (intOf vj).toNat)
 case atStart => exact ⟨0, 1, Hd rfl, by omega, rfl, rfl, by rw [midP_zero]; exact HK1.out.own HO.out fun _ _ => trivial, HK1.out.mono fun _ _ _ => trivial⟩
 case round =>
  obtain ⟨i, j, hji, hj, rfl, rfl, hom, hkp⟩ := hrel
  have hjo := hji.out
  by_cases hlt : j < m
  ·have hid : i + 1 < d.length := by omega
   obtain ⟨sg, hsg⟩ : ∃ sg, d[i + 1] = sg := ⟨_, rfl⟩
   have hcell : ∀ t, t < 3 → wr.cell? ⟨g, j * 3 + t, none⟩ = (sg.enc)[t]? := fun t ht => by
    have h1 := midP_at d i t hid ht
    rw [hsg] at h1
    have hv : ∃ v, (sg.enc)[t]? = some v := ⟨_, List.getElem?_eq_getElem (by simp [SegP.enc, Seg.cells]; omega)⟩
    obtain ⟨v, hv⟩ := hv
    rw [hv] at h1 ⊢
    have := hom.cells (g := g) rfl _ v h1
    rw [WideShapes.add_plain, Nat.zero_add] at this
    rw [hjo]
    exact this
   have d0 : wr.cell? ⟨g, j * 3, none⟩ = some (.int .i64 (sg.1.slot : Int)) := (hcell 0 (by omega)).trans rfl
   have d1 : wr.cell? ⟨g, j * 3 + 1, none⟩ = some (.int .i64 (sg.1.first : Int)) := (hcell 1 (by omega)).trans rfl
   have d2 : wr.cell? ⟨g, j * 3 + 2, none⟩ = some sg.E := (hcell 2 (by omega)).trans rfl
   have hns : ((sg.1.slot : Int) == (y : Int)) = false := by
    have := HN.out (i + 1) hid (by omega)
    rw [hsg] at this
    simp; omega
   have HNX := Hd (show (midP d i).take (i * 3) ++ (.int .i64 (sg.1.slot : Int) :: .int .i64 (sg.1.first : Int) :: sg.E :: (midP d i).drop (i * 3 + 3)) = midP d j from by
    have h := midP_next d i hid
    rw [hsg, List.append_assoc] at h
    rw [hjo]; exact h)
   have HML := Hd (midP_len d i (by omega))
   have hc := Hd (fun w' (hk : Kp wr w') => same_any w' b3 sg.1.slot y sg.1.first sg.E rfl (hk.cell (hkp.cell HY.out hb3) trivial) false hns)
   have HOM := Hd hom
   have HK := Hd hkp
   have HJI := Hd hjo
   have hsl3 : sg.enc.length = 3 := rfl
   have hij : i < m := by omega
   obtain ⟨s1, A1, c1⟩ := sg
   simp only [SegP.E] at d2 hc HNX
   clear hcell hom hkp hsg hji hns
   obtain ⟨w0, hw0⟩ : ∃ w0, wr.alloc (.cells #[.int .i64 (s1.slot : Int), .int .i64 (s1.first : Int), .slice A1 s1.recs.length c1] 179) = w0 := ⟨_, rfl⟩
   have hk0 : Kp wr w0 := by rw [← hw0]; exact (Keeps.refl _ wr).alloc _
   have HBX := Hd (show SBox w0 wr.heap.size s1.slot s1.first (.slice A1 s1.recs.length c1) from by rw [← hw0]; exact SBox.new wr s1.slot s1.first _)
   have HW0 := Hd hw0
   have HK0 := Hd hk0
   have HOM0 := Hd (hk0.own HOM.out fun _ _ => trivial)
   clear hw0 hk0 hjo
   go_wp2_with fail
   rw [HW0.out]
   refine (hc.out w0 HK0.out).mono ?_
   rintro e w2 ⟨rfl, hk2⟩
   have hbx := HBX.out.keep hk2 trivial
   have e0 := hbx.s
   have e1 := hbx.f
   have e2 := hbx.e
   have HOM2 := Hd (hk2.own HOM0.out fun _ _ => trivial)
   have HK2 := Hd (HK.out.trans ((HK0.out.trans hk2).mono fun _ _ _ => trivial))
   clear hbx hk2 HOM HOM0 HK HK0 HBX HW0 d0 d1 d2 hc
   go_wp2_with (refine list_store_own rfl 179 (.tmp 33) (.tmp 32) rfl HOM2.out (i * 3) rfl [.int .i64 (s1.slot : Int), .int .i64 (s1.first : Int), .slice A1 s1.recs.length c1] _ rfl rfl (by kernel_rfl) (by rw [HML.out]; simp only [List.length_cons, List.length_nil]; omega) (fun v hv => by
    simp only [List.mem_cons, List.not_mem_nil, or_false] at hv
    rcases hv with rfl | rfl | rfl <;> rfl) ?_)
   intro w3 ho3 hg3
   have H3 := Hd (show w3.ownsRow 0 179 3 (.slice (some ⟨g, 0, none⟩) m c) m (midP d j) from by
    rw [← HNX.out]; exact ho3)
   have HK3 := Hd (HK2.out.trans (keeps_grown hg3))
   clear ho3 hg3 HK2 HOM2 HNX e0 e1 e2
   go_wp2_with fail
   go_roundw
   case rel => exact ⟨i + 1, j + 1, Hd (by have := HJI.out; omega), by omega, by go_num, by go_num, by have e := HJI.out; rw [← e]; exact H3.out, HK3.out⟩
   case measure => simp [intOf]; omega
  ·obtain rfl : j = m := by omega
   have hil : i + 1 = d.length := by omega
   have hji2 : j - i = 1 := by omega
   have hij : i ≤ j := by omega
   have hic : i ≤ c := by omega
   have hne : ¬ c = i := by omega
   have HML := Hd (midP_len d i (by omega))
   have HLA := Hd (show ((midP d i).take (i * 3) ++ (Value.int .i64 0 :: Value.int .i64 0 :: Value.slice none 0 0 :: (midP d i).drop (i * 3 + 3))).take (i * 3) = encP d.tail from by
    have h := midP_last d i hil [.int .i64 0, .int .i64 0, .slice none 0 0] rfl
    rw [List.append_assoc] at h
    exact h)
   have HJ := Hd (show i = j - 1 by omega)
   have HOM := Hd hom
   have HK := Hd hkp
   clear hom hkp hji hjo
   go_wp2_with (refine list_clear rfl (.tmp 38) 135 rfl Tryz.underlying135 _ Tryz.zeroValue179 HOM.out (i * 3) (c - i) rfl [.int .i64 0, .int .i64 0, .slice none 0 0] (by kernel_rfl) (by rw [HML.out]; simp only [List.length_cons, List.length_nil]; omega) (fun v hv => by
    simp only [List.mem_cons, List.not_mem_nil, or_false] at hv
    rcases hv with rfl | rfl | rfl <;> rfl) ?_)
   intro w3 ho3 hg3
   have H3 := Hd (show w3.ownsRow 0 179 3 (.slice (some ⟨g, 0, none⟩) i c) i (encP d.tail) from by
    have h := own_shorter ho3 hij
    rw [HLA.out] at h
    exact h)
   have HK3 := Hd (HK.out.trans (keeps_grown hg3))
   clear ho3 hg3 HK HOM
   go_wp2_with fail
   go_ret
   have e := HJ.out
   exact ⟨by rw [← e]; rfl, by rw [← e]; exact H3.out, HK3.out⟩
structure Good (rows : List (List UInt8)) (i n : Nat) (s : Seg) : Prop where
 ok : s.Ok
 on : SegOn rows i s
 slot : s.slot < n
 full : s.recs ≠ []
 first : s.first ≤ 274877906943
def VN (b f n : Nat) (u E : Value) : Nat → World → Value → Prop
 | 0 => IsV (.pointer (some ⟨b, 1, none⟩))
 | 1 => IsV (.int .i64 (f : Int))
 | 2 => IsV (.agg #[u, .int .i64 (f : Int), E])
 | 3 => IsV (.int .i64 (n : Int))
 | 4 => IsV (.int .i64 ((f : Int) + (n : Int)))
 | 5 => IsV (.int .i64 ((f : Int) + (n : Int)))
 | _ => fun _ _ => True
theorem VN_any {b f n : Nat} {u E : Value} (i : Nat) (w w' : World) (x : Value) (hv : VN b f n u E i w x) : VN b f n u E i w' x := by
 match i, hv with
 | 0, hv => exact hv
 | 1, hv => exact hv
 | 2, hv => exact hv
 | 3, hv => exact hv
 | 4, hv => exact hv
 | 5, hv => exact hv
 | n + 6, _ => trivial
theorem snext_any (w : World) (sl f : Nat) (A : Option Addr) (n c : Nat) (hf : f ≤ 274877906944) (hn : n ≤ 4096) :
  Calls Tryz.prog 118 #[.agg #[.int .i64 (sl : Int), .int .i64 (f : Int), .slice A n c]] w fun e w' => e = .returned (.int .i64 ((f : Int) + (n : Int))) ∧ Kp w w' := by
 have HB0 := Hd (SBox.new w sl f (.slice A n c))
 have HK0 := Hd (show Kp w (w.alloc (.cells #[.int .i64 (sl : Int), .int .i64 (f : Int), .slice A n c] 179)) from (Keeps.refl _ w).alloc _)
 go_enter Tryz.func118, Tryz.ntmps118
 go_wp2_with fail
 obtain ⟨w0, hw0⟩ : ∃ w0, w.alloc (.cells #[.int .i64 (sl : Int), .int .i64 (f : Int), .slice A n c] 179) = w0 := ⟨_, rfl⟩
 rw [hw0]
 rw [hw0] at HK0 HB0
 clear hw0
 refine wp_region_guard (R := Kp) (V := VN w.heap.size f n (.int .i64 (sl : Int)) (.slice A n c)) (w0 := w0) GE (by kernel_rfl) (fun w => Keeps.refl _ w) (fun _ _ _ h k => h.trans k) (fun i w w' v _ hv => VN_any i w w' v hv) (by kernel_rfl) GE_is (fun i o ho hw => (all_wanted (by kernel_rfl) ho hw).elim) ((Keeps.refl _ w0).drew) (each_of ?_) ?_
 ·refine ⟨?_, ?_, ?_, ?_, ?_, ?_, trivial⟩ <;> intro hw a1 w3 L
  ·exact kp_fG1 rfl (L.o 1)
  ·exact kp_lI64 (HB0.out.keep L.rel trivial).f rfl (L.v 0 3)
  ·have hb := HB0.out.keep L.rel trivial
   exact kp_lG hb.s hb.f hb.e rfl (L.o 1)
  ·have e0 : a1.eval (.tmp 5) = .agg #[.int .i64 (sl : Int), .int .i64 (f : Int), .slice A n c] := L.v 2 5
   have hf : a1.eval (.func 148) = .func (.func 148) #[] #[] := rfl
   refine kp_enter (f := 148) (args := #[.agg #[.int .i64 (sl : Int), .int .i64 (f : Int), .slice A n c]]) ?_ (count_any w3 _ _ A n c rfl rfl) ?_
   ·clear L
    generalize a1.eval = ρ at e0 hf ⊢
    unfold execOp
    go_simp
   ·rintro e w' ⟨rfl, hk⟩
    exact ⟨_, rfl, hk, rfl⟩
  ·have e0 : a1.eval (.tmp 4) = .int .i64 (f : Int) := L.v 1 4
   have e1 : a1.eval (.tmp 6) = .int .i64 (n : Int) := L.v 3 6
   have hw1 : IntKind.i64.wrap ((f : Int) + (n : Int)) = (f : Int) + (n : Int) := by rw [IntKind.wrap_i64]; omega
   refine kp_yield (v := .int .i64 ((f : Int) + (n : Int))) (w' := w3) ?_ (Keeps.refl _ _) rfl
   clear L
   generalize a1.eval = ρ at e0 e1 ⊢
   unfold execOp
   go_simp
  ·exact kp_assign rfl (L.v 4 7)
 ·intro vs w4 hk4 hlen4 hv
  match vs, hlen4 with
  | [v0, v1, v2, v3, v4, v5], _ =>
   have e5 : v5 = .int .i64 ((f : Int) + (n : Int)) := hv 5 2 (by kernel_rfl)
   clear hv
   subst e5
   simp only [putAll, List.map, Act.put, List.setIfInBounds_toArray, List.set_cons_succ, List.set_cons_zero, Exit.then]
   have HK4 := Hd (HK0.out.trans hk4)
   clear hk4
   go_wp2_with fail
   go_ret
   exact ⟨rfl, HK4.out⟩
theorem src_recs (W : World) (base g c m : Nat) (ps : List (Nat × List UInt8)) (vs : List Value) (hm : m = ps.length) (h : vs.length = ps.length) (hv : ∀ v ∈ vs, v.oneCell' = true) (ho : W.ownsRow base 172 2 (.slice (some ⟨g, 0, none⟩) m c) m (recC ps vs)) :
  Src Tryz.prog 2 169 (.slice (some ⟨g, 0, none⟩) m c) m (recC ps vs) W :=
 Src.ofSlice _ Tryz.underlying169 ⟨g, 0, none⟩ m c (recC ps vs) (by rw [recC_len _ _ h, hm]) (fun j v hj => ho.cells (g := g) rfl j v hj) (recC_one _ _ hv)
theorem flat_take (ks : List Seg) (k : Nat) (h : k < ks.length) : ((ks.take (k + 1)).flatMap Seg.recs).map LRec.key = ((ks.take k).flatMap Seg.recs).map LRec.key ++ ((ks[k]).recs).map LRec.key := by
 rw [take_next _ _ h, List.flatMap_append, List.map_append, List.flatMap_cons, List.flatMap_nil, List.append_nil]
theorem lall_any (w : World) (hT : Taken w) (q : Nat) (Fs : Foot) (p i n : Nat) (ks : List Seg) (sl left nx : Nat) (tl : List UInt8) (K T : Value) (Es : List Value) (h : LogAt w q Fs p i n ks sl left nx tl K T Es) (F : Foot) (s : SDev) (hd : DAt w p F s)
  (hg : ∀ sg ∈ ks, Good s.now i n sg) (hn : n ≤ 200) (hin : i + 8 * n ≤ s.now.length) (hkn : ks.length ≤ n) :
  Calls Tryz.prog 97 #[.pointer (some ⟨q, 0, none⟩)] w fun e w' => ∃ v, e = .returned v ∧ RecRow w' w.heap.size v ((ks.flatMap Seg.recs).map LRec.key) ∧ Kp w w' := by
 have hsm := hd.ok.small
 have HDN := Hd (down_no w q p i n h.head)
 have HBD := Hd (fun (w' : World) (hk : Kp w w') (sg : Seg) (E : Value) (hm : sg ∈ ks) (hE : SegV w' Fs.M sg E) => bodies_any w' (hT.keep hk) q p i n (h.head.keep hk trivial) F s (hd.keep (hk.mono fun _ _ _ => trivial)) sg E Fs.M hE (hg sg hm).ok (hg sg hm).full (hg sg hm).on (by omega) (by have := (hg sg hm).slot; omega) (hg sg hm).first (by have := (hg sg hm).slot; omega))
 have HCN := Hd (fun (k : Nat) (hk : k ≤ ks.length) => (show (((ks.take k).flatMap Seg.recs).map LRec.key).length ≤ 212 * k from by
  induction k with
  | zero => simp
  | succ k ih =>
   have e : ((ks[k]).recs.map LRec.key).length = (ks[k]).recs.length := List.length_map ..
   rw [flat_take ks k hk, List.length_append, e]
   have := ih (Nat.le_of_succ_le hk)
   have := (hg _ (List.getElem_mem hk)).ok.count
   omega))
 have HGC := Hd (fun (k : Nat) (hk : k < ks.length) => (hg _ (List.getElem_mem hk)).ok.count)
 have HFU := Hd (fun (k : Nat) (hk : k < ks.length) => (hg _ (List.getElem_mem hk)).full)
 obtain ⟨A, c, rfl, hlc, hcm, hs⟩ := h.segs
 unfold maxLen at hcm
 have c3 := (cell_of_block h.blk 3).trans rfl
 have HSG := Hd hs
 have hkn2 : ks.length ≤ 200 := by omega
 clear h hs hT hd hg
 go_enter Tryz.func97, Tryz.ntmps97
 go_wp2_with fail
 refine HDN.out.mono ?_
 rintro e w' ⟨rfl, rfl⟩
 go_wp2_with fail
 go_loopw [3, 13] (fun vo vj wr => ∃ (k : Nat) (u : Value), k ≤ ks.length ∧ vj = .int .i64 k ∧ u = vo ∧ RecRow wr w.heap.size u (((ks.take k).flatMap Seg.recs).map LRec.key) ∧ Kp w wr) (fun _ vj _ => ks.length - (intOf vj).toNat)
 case atStart => exact ⟨0, _, Nat.zero_le _, rfl, rfl, by rw [List.take_zero]; exact RecRow.nil _ _, Keeps.refl _ _⟩
 case round =>
  obtain ⟨k, u, hk, rfl, hu, hrr, hkp⟩ := hrel
  subst hu
  by_cases hlt : k < ks.length
  ·obtain ⟨b, o, E, rfl, hbM, d0, d1, d2, hE⟩ := (HSG.out.keep (hkp.mono fun _ _ _ => trivial)) k hlt
   obtain ⟨AE, cE, rfl, -⟩ := hE.ex
   have HRR := Hd hrr
   have HK := Hd hkp
   have HE := Hd hE
   have hk2 : Kp wr (wr.alloc (.cells #[.int .i64 ((ks[k]).slot : Int), .int .i64 ((ks[k]).first : Int), .slice AE (ks[k]).recs.length cE] 179)) := (Keeps.refl _ wr).alloc _
   have HK2 := Hd hk2
   have HFL := Hd (flat_take ks k hlt)
   have HMEM := Hd (List.getElem_mem hlt)
   have hcn := HCN.out k hk
   have hgc := HGC.out k hlt
   have HFK := Hd (HFU.out k hlt)
   generalize ks[k] = sg at d0 d1 d2 HE HK2 HFL HMEM hgc HFK
   obtain ⟨w0, hw0⟩ : ∃ w0, wr.alloc (.cells #[.int .i64 (sg.slot : Int), .int .i64 (sg.first : Int), .slice AE sg.recs.length cE] 179) = w0 := ⟨_, rfl⟩
   have HW0 := Hd hw0
   rw [hw0] at HK2
   clear hrr hkp hE hk2 hw0
   go_wp2_with fail
   rw [HW0.out]
   refine (HBD.out w0 (HK.out.trans HK2.out) sg _ HMEM.out (HE.out.keep (HK2.out.mono fun _ _ _ => trivial))).mono ?_
   rintro e' w1 ⟨vb, rfl, hrb, hk1⟩
   obtain ⟨us, hu1, hu2, hu3⟩ := hrb.ex
   have hlen1 : (sg.recs.map LRec.key).length = sg.recs.length := List.length_map ..
   have hpos : 0 < (sg.recs.map LRec.key).length := by rw [hlen1]; exact List.length_pos_iff.2 HFK.out
   obtain ⟨ml, hml⟩ : ∃ ml, (sg.recs.map LRec.key).length = ml := ⟨_, rfl⟩
   rw [hml] at hu2 hpos hlen1
   have hml2 : ml ≤ 212 := by omega
   clear hlen1
   obtain ⟨g, cg, rfl, hbase, hglt⟩ := hu2.form hpos
   have hkk : Kp wr w1 := HK2.out.trans hk1
   have HRR1 := Hd (HRR.out.keep hkk)
   obtain ⟨vs0, hv1, hv2, hv3⟩ := HRR1.out.ex
   have hown : ∀ b, u.ownBlock = some b → b < wr.heap.size := fun b hb => by
    obtain ⟨vs1, q1, q2, q3⟩ := HRR.out.ex
    exact (q2.lt b hb).2
   have HOB := Hd hown
   have huone : ∀ v ∈ us, v.oneCell' = true := fun v hv => by
    obtain ⟨j, hj, e⟩ := List.getElem_of_mem hv
    obtain ⟨B, cc, e2, -⟩ := hu3 j (by rw [← hu1]; exact hj)
    rw [List.getElem?_eq_getElem hj, e] at e2
    injection e2 with e2
    rw [e2]; rfl
   have HSR := Hd (src_recs w1 _ g cg ml (sg.recs.map LRec.key) us hml.symm hu1 huone hu2)
   have HK1 := Hd (HK.out.trans hkk)
   have HV1 := Hd hv1
   obtain ⟨vl, hvl⟩ : ∃ vl, (((ks.take k).flatMap Seg.recs).map LRec.key).length = vl := ⟨_, rfl⟩
   rw [hvl] at hv2 hcn
   have HV2 := Hd hv2
   have HV3 := Hd hv3
   have HVL := Hd hvl
   have HML := Hd hml
   have HU1 := Hd hu1
   have HU3 := Hd hu3
   have hz1 := HK1.out.size
   have hz2 := HK2.out.size
   have hz3 := HK.out.size
   clear hvl hml
   clear hv1 hv2 hv3 hu1 hu2 hu3 hk1 hrb hkk huone hown HRR HK2 HE HRR1
   go_wp2_with (at_builtin; refine rec_elem.list_append rfl (.tmp 17) (.tmp 20) _ rfl rfl HV2.out rfl HSR.out ?c3 ?c4 hz1 ?_)
   case c3 => unfold maxLen; omega
   case c4 => omega
   intro v5 w5 ho5 hg5 hb5
   have hown4 := HV2.out
   have HR5 := Hd (show RecRow w5 w.heap.size v5 (((ks.take (k + 1)).flatMap Seg.recs).map LRec.key) from by
    rw [HFL.out]
    refine RecRow.put (w := w1) (v := u) (vs := vs0) (us := us) HV1.out (by rw [HVL.out]; exact HV2.out) HV3.out HU1.out (fun j hj => ?_) (by rw [HVL.out, HML.out]; exact ho5) hg5 hb5
    obtain ⟨B, cc, e, hr⟩ := HU3.out j hj
    exact ⟨B, cc, e, hr.mono fun b _ hb => ⟨by omega, fun e => by have := HOB.out b e; omega⟩⟩)
   have HK5 := Hd (show Kp w w5 from HK1.out.grown hg5 fun b hb => (hown4.lt b hb).1)
   clear ho5 hg5 hb5 hown4 HV1 HV2 HV3 HSR HU1 HU3
   go_wp2_with fail
   go_roundw
   case rel => exact ⟨k + 1, _, by omega, by go_num, rfl, HR5.out, HK5.out⟩
   case measure => simp [intOf]; omega
  ·obtain rfl : k = ks.length := by omega
   rw [List.take_length] at hrr
   have H1 := Hd hrr
   have H2 := Hd hkp
   clear hrr hkp
   go_wp2_with fail
   go_ret
   exact ⟨_, rfl, H1.out, H2.out⟩
end Go.Proofs.YticophaepapjoaaGreatDoor
