/-
  SlgDelete: texts of mine, joined.
-/
import Derived.Test.YticophaepapjoaaGreatDoorAllA26
namespace Go.Proofs.YticophaepapjoaaGreatDoor
open Go Go.RowKit Go.Joins
theorem same_any (w : World) (b3 a y f : Nat) (E : Value) (_hE : E.oneCell' = true) (hc : w.cell? ⟨b3, 0, none⟩ = some (.int .i64 (y : Int))) (r : Bool) (hr : ((a : Int) == (y : Int)) = r) :
  Calls Tryz.prog 133 #[.agg #[.int .i64 (a : Int), .int .i64 (f : Int), E], .pointer (some ⟨b3, 0, none⟩)] w fun e w' => e = .returned (.bool r) ∧ Kp w w' := by
 have hlt := World.block_lt_of_cell? w _ hc
 simp only at hlt
 have hc2 : ∀ o, (w.alloc o).cell? ⟨b3, 0, none⟩ = some (.int .i64 (y : Int)) := fun o => ((Keeps.refl (fun _ => True) w).alloc o).cell hc trivial
 go_enter Tryz.func133, Tryz.ntmps133
 go_wp2
 go_ret
 exact ⟨rfl, (Keeps.refl _ _).alloc _⟩
section
variable (w : World) (A : Option Addr) (c b3 y : Nat) (G : Nat → Prop) (ks : List Seg)
set_option maxRecDepth 100000 in
set_option maxHeartbeats 1000000 in
theorem index_none (hs : SegsAt w A G ks) (hy : w.cell? ⟨b3, 0, none⟩ = some (.int .i64 (y : Int))) (hl : ks.length ≤ 4096) (hne : ∀ k (h : k < ks.length), (ks[k]).slot ≠ y) :
  Calls Tryz.prog 170 #[.slice A ks.length c, .func (.func 133) #[] #[.pointer (some ⟨b3, 0, none⟩)]] w fun e w' => e = .returned (.int .i64 (-1)) ∧ Kp w w' := by
 have HS := Lib.hid hs
 have HY := Lib.hid hy
 have HN := Lib.hid hne
 clear hs hy hne
 go_enter Tryz.func170, Tryz.ntmps170
 go_wp2_with fail
 go_loopw [8] (fun vk wr => ∃ k : Nat, k ≤ ks.length ∧ vk = .int .i64 k ∧ Kp w wr) (fun vk _ => ks.length - (intOf vk).toNat)
 case atStart => exact ⟨0, Nat.zero_le _, rfl, Keeps.refl _ _⟩
 case round =>
  obtain ⟨k, hk, rfl, hkp⟩ := hrel
  by_cases hlt : k < ks.length
  ·obtain ⟨b, o, E, rfl, hbM, d0, d1, d2, hE⟩ := (HS.out.keep (hkp.mono fun _ _ _ => trivial)) k hlt
   obtain ⟨AE, cE, rfl, -⟩ := hE.ex
   have hc := Lib.hid (same_any wr b3 (ks[k]).slot y (ks[k]).first (.slice AE (ks[k]).recs.length cE) rfl (hkp.cell HY.out trivial) false (by have := HN.out k hlt; simp; omega))
   have HK := Lib.hid hkp
   clear hE hkp
   generalize ks[k] = sg at d0 d1 d2 hc
   go_wp2_with fail
   refine hc.out.mono ?_
   rintro e w1 ⟨rfl, hk1⟩
   have HK1 := Lib.hid (HK.out.trans hk1)
   clear hk1
   go_wp2_with fail
   go_roundw
   case rel => exact ⟨k + 1, by omega, by go_num, HK1.out⟩
   case measure => simp [intOf]; omega
  ·obtain rfl : k = ks.length := by omega
   have HK := Lib.hid hkp
   clear hkp
   go_wp2_with fail
   go_ret
   exact ⟨rfl, HK.out⟩
set_option maxRecDepth 100000 in
set_option maxHeartbeats 1000000 in
theorem index_zero (hs : SegsAt w A G ks) (hy : w.cell? ⟨b3, 0, none⟩ = some (.int .i64 (y : Int))) (hl : ks.length ≤ 4096) (hp : 0 < ks.length) (he : (ks[0]).slot = y) :
  Calls Tryz.prog 170 #[.slice A ks.length c, .func (.func 133) #[] #[.pointer (some ⟨b3, 0, none⟩)]] w fun e w' => e = .returned (.int .i64 0) ∧ Kp w w' := by
 have HS := Lib.hid hs
 have HY := Lib.hid hy
 have HE := Lib.hid he
 clear hs hy he
 go_enter Tryz.func170, Tryz.ntmps170
 go_wp2_with fail
 go_loopw [8] (fun vk wr => vk = .int .i64 0 ∧ Kp w wr) (fun vk _ => 0)
 case atStart => exact ⟨rfl, Keeps.refl _ _⟩
 case round =>
  obtain ⟨rfl, hkp⟩ := hrel
  obtain ⟨b, o, E, rfl, hbM, d0, d1, d2, hE⟩ := (HS.out.keep (hkp.mono fun _ _ _ => trivial)) 0 hp
  obtain ⟨AE, cE, rfl, -⟩ := hE.ex
  have hc := Lib.hid (same_any wr b3 (ks[0]).slot y (ks[0]).first (.slice AE (ks[0]).recs.length cE) rfl (hkp.cell HY.out trivial) true (by rw [HE.out]; simp))
  have HK := Lib.hid hkp
  simp only [Nat.zero_mul, Nat.add_zero] at d0 d1 d2
  clear hE hkp HE
  generalize ks[0] = sg at d0 d1 d2 hc
  have hp' : (0 : Int) < (ks.length : Int) := by omega
  go_wp2_with fail
  refine hc.out.mono ?_
  rintro e w1 ⟨rfl, hk1⟩
  have HK1 := Lib.hid (HK.out.trans hk1)
  clear hk1
  go_wp2_with fail
  go_ret
  exact ⟨rfl, HK1.out⟩
set_option maxRecDepth 100000 in
set_option maxHeartbeats 1000000 in
theorem delete_none (hs : SegsAt w A G ks) (hy : w.cell? ⟨b3, 0, none⟩ = some (.int .i64 (y : Int))) (hl : ks.length ≤ 4096) (hne : ∀ k (h : k < ks.length), (ks[k]).slot ≠ y) :
  Calls Tryz.prog 132 #[.slice A ks.length c, .func (.func 133) #[] #[.pointer (some ⟨b3, 0, none⟩)]] w fun e w' => e = .returned (.slice A ks.length c) ∧ Kp w w' := by
 have HI := Lib.hid (index_none w A c b3 y G ks hs hy hl hne)
 clear hs hy hne
 go_enter Tryz.func132, Tryz.ntmps132
 go_wp2_with fail
 refine HI.out.mono ?_
 rintro e w1 ⟨rfl, hk1⟩
 have HK1 := Lib.hid hk1
 clear hk1
 go_wp2_with fail
 go_ret
 exact ⟨rfl, HK1.out⟩
end
theorem list_clear {P : Program} {w : World} {ops : Array Oper} {rest : List Oper} {o : Oper} {a : Act} {Q : Exit → Act → World → Prop} {base n c g size : Nat} {e : TypeId} {xs : List Value} (hgd : o.guard = none) (x : Operand) (t : TypeId) (ho : o.op = .call { callee := .builtin .clear, args := #[x], argTypes := #[t] }) (hu : P.underlying t = some (.slice e)) (z : Value) (hz : ∀ w, (zeroValue e).run P w = .ok z w)
  (hown : w.ownsRow base e size (.slice (some ⟨g, 0, none⟩) n c) n xs) (j cc : Nat) (hx : a.eval x = .slice (some ⟨g, j, none⟩) 1 cc) (cs : List Value) (hcs : (Builtin.zeroCells z.cells 1).toList = cs) (hfit : j + cs.length ≤ xs.length) (h1 : ∀ v ∈ cs, v.oneCell' = true)
  (hK : ∀ w', w'.ownsRow base e size (.slice (some ⟨g, 0, none⟩) n c) n (xs.take j ++ cs ++ xs.drop (j + cs.length)) → w.grownBy w' (some g) → wpList P ops Q rest (a.put o.dst (.tuple #[])) w') : wpList P ops Q (o :: rest) a w := by
 obtain ⟨cur, hg, hl, h2, h3⟩ := own_splice hown j cs hfit
 have hst := run_storeCells_at P g j e cs 0 cur w hg (by simpa using hl) h1
 simp only [Nat.add_zero] at hst
 generalize w.setRow g (cur.toList.take j ++ cs ++ cur.toList.drop (j + cs.length)).toArray = w2 at hst h2 h3
 refine wpList_plain hgd fun K hh => ?_
 unfold Oper.wp execOp
 simp [ho, resolve, invoke, builtin, hx, Builtin.clear_, run_underlying hu, hz, hcs, hst, Result.andThen]
 exact hh _ _ (hK _ h2 h3)
def midP (d : List SegP) (i : Nat) : List Value := (encP d.tail).take (i * 3) ++ (encP d).drop (i * 3)
theorem encP_tail (x : SegP) (d : List SegP) : encP (x :: d) = x.enc ++ encP d := rfl
theorem midP_len (d : List SegP) (i : Nat) (h : i + 1 ≤ d.length) : (midP d i).length = d.length * 3 := by
 unfold midP
 rw [List.length_append, List.length_take, List.length_drop, encP_len, encP_len, List.length_tail]
 omega
theorem midP_zero (d : List SegP) : midP d 0 = encP d := by simp [midP]
theorem midP_at (d : List SegP) (i t : Nat) (h : i + 1 < d.length) (ht : t < 3) : (midP d i)[(i + 1) * 3 + t]? = ((d[i + 1]).enc)[t]? := by
 unfold midP
 have hl : ((encP d.tail).take (i * 3)).length = i * 3 := by rw [List.length_take, encP_len, List.length_tail]; omega
 rw [List.getElem?_append_right (by omega), hl, List.getElem?_drop, show i * 3 + ((i + 1) * 3 + t - i * 3) = (i + 1) * 3 + t by omega]
 exact encP_at d (i + 1) h t ht
theorem encP_take (d : List SegP) (i : Nat) (h : i < d.length) : (encP d).take ((i + 1) * 3) = (encP d).take (i * 3) ++ (d[i]).enc := by
 have hl : (d[i]).enc.length = 3 := by simp [SegP.enc, Seg.cells]
 apply List.ext_getElem?
 intro j
 rw [List.getElem?_take]
 by_cases h1 : j < i * 3
 ·rw [if_pos (by omega), List.getElem?_append_left (by rw [List.length_take, encP_len]; omega), List.getElem?_take, if_pos h1]
 ·rw [List.getElem?_append_right (by rw [List.length_take, encP_len]; omega), List.length_take, encP_len, show min (i * 3) (d.length * 3) = i * 3 by omega]
  by_cases h2 : j < (i + 1) * 3
  ·rw [if_pos h2, ← encP_at d i h (j - i * 3) (by omega), show i * 3 + (j - i * 3) = j by omega]
  ·rw [if_neg h2, List.getElem?_eq_none (by omega)]
theorem midP_next (d : List SegP) (i : Nat) (h : i + 1 < d.length) : (midP d i).take (i * 3) ++ (d[i + 1]).enc ++ (midP d i).drop (i * 3 + (d[i + 1]).enc.length) = midP d (i + 1) := by
 have hl : ((encP d.tail).take (i * 3)).length = i * 3 := by rw [List.length_take, encP_len, List.length_tail]; omega
 have h3 : (d[i + 1]).enc.length = 3 := by simp [SegP.enc, Seg.cells]
 have ht : d.tail[i]'(by rw [List.length_tail]; omega) = d[i + 1] := by rw [List.getElem_tail]
 have e1 : (midP d i).take (i * 3) = (encP d.tail).take (i * 3) := by unfold midP; rw [List.take_append_of_le_length (by omega), List.take_of_length_le (by omega)]
 have e2 : (midP d i).drop (i * 3 + 3) = (encP d).drop ((i + 1) * 3) := by
  unfold midP
  rw [List.drop_append, List.drop_eq_nil_of_le (by omega), List.nil_append, hl, List.drop_drop]
  congr 1; omega
 rw [h3, e1, e2]
 unfold midP
 rw [encP_take d.tail i (by rw [List.length_tail]; omega), ht]
theorem midP_last (d : List SegP) (i : Nat) (h : i + 1 = d.length) (cs : List Value) (_hcs : cs.length = 3) : ((midP d i).take (i * 3) ++ cs ++ (midP d i).drop (i * 3 + cs.length)).take (i * 3) = encP d.tail := by
 have hl : ((encP d.tail).take (i * 3)).length = i * 3 := by rw [List.length_take, encP_len, List.length_tail]; omega
 have e1 : (midP d i).take (i * 3) = (encP d.tail).take (i * 3) := by unfold midP; rw [List.take_append_of_le_length (by omega), List.take_of_length_le (by omega)]
 rw [e1, List.append_assoc, List.take_append_of_le_length (by omega), List.take_of_length_le (by omega), List.take_of_length_le (by rw [encP_len, List.length_tail]; omega)]
theorem own_shorter {w : World} {base n c g size m : Nat} {e : TypeId} {xs : List Value} (h : w.ownsRow base e size (.slice (some ⟨g, 0, none⟩) n c) n xs) (hm : m ≤ n) : w.ownsRow base e size (.slice (some ⟨g, 0, none⟩) m c) m (xs.take (m * size)) := by
 have hle : m * size ≤ n * size := Nat.mul_le_mul_right _ hm
 refine ⟨by rw [List.length_take, h.1]; omega, ?_⟩
 rcases h.2 with ⟨e0, _⟩ | ⟨g', cap', cur, e0, hb, hg, hn, hcm, hs, ht⟩
 ·cases e0
 ·injection e0 with e1 _ e3
  injection e1 with e1
  injection e1 with e1
  subst e1; subst e3
  exact .inr ⟨g, c, cur, rfl, hb, hg, by omega, hcm, hs, by rw [← ht, List.take_take, Nat.min_eq_left hle]⟩
set_option maxRecDepth 100000 in
set_option maxHeartbeats 400000 in
theorem delete_first (w : World) (g c b3 y m : Nat) (d : List SegP) (hm : m = d.length) (ho : w.ownsRow 0 179 3 (.slice (some ⟨g, 0, none⟩) m c) m (encP d)) (hs : SegsAt w (some ⟨g, 0, none⟩) (fun _ => True) (d.map Prod.fst)) (hy : w.cell? ⟨b3, 0, none⟩ = some (.int .i64 (y : Int))) (hb3 : b3 ≠ g) (hl : d.length ≤ 4096) (hp : 0 < d.length)
  (he : (d[0]).1.slot = y) (hne : ∀ k (h : k < d.length), 0 < k → (d[k]).1.slot ≠ y) :
  Calls Tryz.prog 132 #[.slice (some ⟨g, 0, none⟩) m c, .func (.func 133) #[] #[.pointer (some ⟨b3, 0, none⟩)]] w fun e w' => e = .returned (.slice (some ⟨g, 0, none⟩) (m - 1) c) ∧
   w'.ownsRow 0 179 3 (.slice (some ⟨g, 0, none⟩) (m - 1) c) (m - 1) (encP d.tail) ∧ Keeps (fun b => b ≠ g) w w' := by
 have hroom := own_room ho
 have hcm := hroom.2
 unfold maxLen at hcm
 have hml : (d.map Prod.fst).length = m := by rw [List.length_map]; exact hm.symm
 have HI := Lib.hid (show Calls Tryz.prog 170 #[.slice (some ⟨g, 0, none⟩) m c, .func (.func 133) #[] #[.pointer (some ⟨b3, 0, none⟩)]] w fun e w' => e = .returned (.int .i64 0) ∧ Kp w w' from by
  have h := index_zero w (some ⟨g, 0, none⟩) c b3 y _ _ hs hy (by rw [List.length_map]; exact hl) (by rw [List.length_map]; exact hp) (by rw [List.getElem_map]; exact he)
  rw [hml] at h
  exact h)
 have HO := Lib.hid ho
 have HY := Lib.hid hy
 have HN := Lib.hid hne
 have HM := Lib.hid hm
 have hgl := (ho.lt g rfl).2
 have hroom1 := hroom.1
 have hmd : m ≤ d.length ∧ d.length ≤ m := by omega
 clear ho hs hy he hne hroom hm hml
 go_enter Tryz.func132, Tryz.ntmps132
 go_wp2_with fail
 refine HI.out.mono ?_
 rintro e w1 ⟨rfl, hk1⟩
 have HK1 := Lib.hid hk1
 clear hk1 HI
 go_wp2_with fail
 go_loopw [5, 6] (fun vi vj wr => ∃ i j : Nat, RowKit.Hid (j = i + 1) ∧ j ≤ m ∧ vi = .int .i64 i ∧ vj = .int .i64 j ∧ wr.ownsRow 0 179 3 (.slice (some ⟨g, 0, none⟩) m c) m (midP d i) ∧ Keeps (fun b => b ≠ g) w wr) (fun _ vj _ => m - (intOf vj).toNat)
 case atStart => exact ⟨0, 1, Lib.hid rfl, by omega, rfl, rfl, by rw [midP_zero]; exact HK1.out.own HO.out fun _ _ => trivial, HK1.out.mono fun _ _ _ => trivial⟩
 case round =>
  obtain ⟨i, j, hji, hj, rfl, rfl, hom, hkp⟩ := hrel
  have hjo := hji.out
  by_cases hlt : j < m
  ·have hid : i + 1 < d.length := by omega
   obtain ⟨sg, hsg⟩ : ∃ sg, d[i + 1] = sg := ⟨_, rfl⟩
   have hcell : ∀ t, t < 3 → wr.cell? ⟨g, j * 3 + t, none⟩ = (sg.enc)[t]? := fun t ht => by
    have h1 := midP_at d i t hid ht
    rw [hsg] at h1
    have hv : ∃ v, (sg.enc)[t]? = some v := ⟨_, List.getElem?_eq_getElem (by simp [SegP.enc, Seg.cells]; omega)⟩
    obtain ⟨v, hv⟩ := hv
    rw [hv] at h1 ⊢
    have := hom.cells (g := g) rfl _ v h1
    rw [WideShapes.add_plain, Nat.zero_add] at this
    rw [hjo]
    exact this
   have d0 : wr.cell? ⟨g, j * 3, none⟩ = some (.int .i64 (sg.1.slot : Int)) := (hcell 0 (by omega)).trans rfl
   have d1 : wr.cell? ⟨g, j * 3 + 1, none⟩ = some (.int .i64 (sg.1.first : Int)) := (hcell 1 (by omega)).trans rfl
   have d2 : wr.cell? ⟨g, j * 3 + 2, none⟩ = some sg.E := (hcell 2 (by omega)).trans rfl
   have hns : ((sg.1.slot : Int) == (y : Int)) = false := by
    have := HN.out (i + 1) hid (by omega)
    rw [hsg] at this
    simp; omega
   have HNX := Lib.hid (show (midP d i).take (i * 3) ++ (.int .i64 (sg.1.slot : Int) :: .int .i64 (sg.1.first : Int) :: sg.E :: (midP d i).drop (i * 3 + 3)) = midP d j from by
    have h := midP_next d i hid
    rw [hsg, List.append_assoc] at h
    rw [hjo]; exact h)
   have HML := Lib.hid (midP_len d i (by omega))
   have hc := Lib.hid (fun w' (hk : Kp wr w') => same_any w' b3 sg.1.slot y sg.1.first sg.E rfl (hk.cell (hkp.cell HY.out hb3) trivial) false hns)
   have HOM := Lib.hid hom
   have HK := Lib.hid hkp
   have HJI := Lib.hid hjo
   have hsl3 : sg.enc.length = 3 := rfl
   have hij : i < m := by omega
   obtain ⟨s1, A1, c1⟩ := sg
   simp only [SegP.E] at d2 hc HNX
   clear hcell hom hkp hsg hji hns
   obtain ⟨w0, hw0⟩ : ∃ w0, wr.alloc (.cells #[.int .i64 (s1.slot : Int), .int .i64 (s1.first : Int), .slice A1 s1.recs.length c1] 179) = w0 := ⟨_, rfl⟩
   have hk0 : Kp wr w0 := by rw [← hw0]; exact (Keeps.refl _ wr).alloc _
   have HBX := Lib.hid (show SBox w0 wr.heap.size s1.slot s1.first (.slice A1 s1.recs.length c1) from by rw [← hw0]; exact SBox.new wr s1.slot s1.first _)
   have HW0 := Lib.hid hw0
   have HK0 := Lib.hid hk0
   have HOM0 := Lib.hid (hk0.own HOM.out fun _ _ => trivial)
   clear hw0 hk0 hjo
   go_wp2_with fail
   rw [HW0.out]
   refine (hc.out w0 HK0.out).mono ?_
   rintro e w2 ⟨rfl, hk2⟩
   have hbx := HBX.out.keep hk2 trivial
   have e0 := hbx.s
   have e1 := hbx.f
   have e2 := hbx.e
   have HOM2 := Lib.hid (hk2.own HOM0.out fun _ _ => trivial)
   have HK2 := Lib.hid (HK.out.trans ((HK0.out.trans hk2).mono fun _ _ _ => trivial))
   clear hbx hk2 HOM HOM0 HK HK0 HBX HW0 d0 d1 d2 hc
   go_wp2_with (refine list_store_own rfl 179 (.tmp 33) (.tmp 32) rfl HOM2.out (i * 3) rfl [.int .i64 (s1.slot : Int), .int .i64 (s1.first : Int), .slice A1 s1.recs.length c1] _ rfl rfl (by kernel_rfl) (by rw [HML.out]; simp only [List.length_cons, List.length_nil]; omega) (fun v hv => by
    simp only [List.mem_cons, List.not_mem_nil, or_false] at hv
    rcases hv with rfl | rfl | rfl <;> rfl) ?_)
   intro w3 ho3 hg3
   have H3 := Lib.hid (show w3.ownsRow 0 179 3 (.slice (some ⟨g, 0, none⟩) m c) m (midP d j) from by
    rw [← HNX.out]; exact ho3)
   have HK3 := Lib.hid (HK2.out.trans (keeps_grown hg3))
   clear ho3 hg3 HK2 HOM2 HNX e0 e1 e2
   go_wp2_with fail
   go_roundw
   case rel => exact ⟨i + 1, j + 1, Lib.hid (by have := HJI.out; omega), by omega, by go_num, by go_num, by have e := HJI.out; rw [← e]; exact H3.out, HK3.out⟩
   case measure => simp [intOf]; omega
  ·obtain rfl : j = m := by omega
   have hil : i + 1 = d.length := by omega
   have hji2 : j - i = 1 := by omega
   have hij : i ≤ j := by omega
   have hic : i ≤ c := by omega
   have hne : ¬ c = i := by omega
   have HML := Lib.hid (midP_len d i (by omega))
   have HLA := Lib.hid (show ((midP d i).take (i * 3) ++ (Value.int .i64 0 :: Value.int .i64 0 :: Value.slice none 0 0 :: (midP d i).drop (i * 3 + 3))).take (i * 3) = encP d.tail from by
    have h := midP_last d i hil [.int .i64 0, .int .i64 0, .slice none 0 0] rfl
    rw [List.append_assoc] at h
    exact h)
   have HJ := Lib.hid (show i = j - 1 by omega)
   have HOM := Lib.hid hom
   have HK := Lib.hid hkp
   clear hom hkp hji hjo
   go_wp2_with (refine list_clear rfl (.tmp 38) 135 rfl Tryz.underlying135 _ Tryz.zeroValue179 HOM.out (i * 3) (c - i) rfl [.int .i64 0, .int .i64 0, .slice none 0 0] (by kernel_rfl) (by rw [HML.out]; simp only [List.length_cons, List.length_nil]; omega) (fun v hv => by
    simp only [List.mem_cons, List.not_mem_nil, or_false] at hv
    rcases hv with rfl | rfl | rfl <;> rfl) ?_)
   intro w3 ho3 hg3
   have H3 := Lib.hid (show w3.ownsRow 0 179 3 (.slice (some ⟨g, 0, none⟩) i c) i (encP d.tail) from by
    have h := own_shorter ho3 hij
    rw [HLA.out] at h
    exact h)
   have HK3 := Lib.hid (HK.out.trans (keeps_grown hg3))
   clear ho3 hg3 HK HOM
   go_wp2_with fail
   go_ret
   have e := HJ.out
   exact ⟨by rw [← e]; rfl, by rw [← e]; exact H3.out, HK3.out⟩
end Go.Proofs.YticophaepapjoaaGreatDoor
