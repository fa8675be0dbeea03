/-
  SlgDelete, SlgReads, SlgBegin, SlgBegins: texts of mine, joined.
-/
import Derived.Test.YticophaepapjoaaGreatDoorAllA15
import Derived.RegionTactic
import Derived.ChangeAlike
import Derived.BigRegion
namespace Go.Proofs.YticophaepapjoaaGreatDoor
open Go Go.RowKit Go.Joins
theorem same_any (w : World) (b3 a y f : Nat) (E : Value) (hE : E.oneCell' = true) (hc : w.cell? ⟨b3, 0, none⟩ = some (.int .i64 (y : Int))) (r : Bool) (hr : ((a : Int) == (y : Int)) = r) :
  Calls Tryz.prog 133 #[.agg #[.int .i64 (a : Int), .int .i64 (f : Int), E], .pointer (some ⟨b3, 0, none⟩)] w fun e w' => e = .returned (.bool r) ∧ Kp w w' := by
 have hlt := World.block_lt_of_cell? w _ hc
 simp only at hlt
 have hc2 : ∀ o, (w.alloc o).cell? ⟨b3, 0, none⟩ = some (.int .i64 (y : Int)) := fun o => ((Keeps.refl (fun _ => True) w).alloc o).cell hc trivial
 go_enter Tryz.func133, Tryz.ntmps133
 go_wp2
 go_ret
 exact ⟨rfl, (Keeps.refl _ _).alloc _⟩
section
variable (w : World) (A : Option Addr) (c b3 y : Nat) (G : Nat → Prop) (ks : List Seg)
set_option maxRecDepth 100000 in
set_option maxHeartbeats 1000000 in
theorem index_none (hs : SegsAt w A G ks) (hy : w.cell? ⟨b3, 0, none⟩ = some (.int .i64 (y : Int))) (hl : ks.length ≤ 4096) (hne : ∀ k (h : k < ks.length), (ks[k]).slot ≠ y) :
  Calls Tryz.prog 170 #[.slice A ks.length c, .func (.func 133) #[] #[.pointer (some ⟨b3, 0, none⟩)]] w fun e w' => e = .returned (.int .i64 (-1)) ∧ Kp w w' := by
 have HS := Lib.hid hs
 have HY := Lib.hid hy
 have HN := Lib.hid hne
 clear hs hy hne
 go_enter Tryz.func170, Tryz.ntmps170
 go_wp2_with fail
 go_loopw [8] (fun vk wr => ∃ k : Nat, k ≤ ks.length ∧ vk = .int .i64 k ∧ Kp w wr) (fun vk _ => ks.length - (intOf vk).toNat)
 case atStart => exact ⟨0, Nat.zero_le _, rfl, Keeps.refl _ _⟩
 case round =>
  obtain ⟨k, hk, rfl, hkp⟩ := hrel
  by_cases hlt : k < ks.length
  ·obtain ⟨b, o, E, rfl, hbM, d0, d1, d2, hE⟩ := (HS.out.keep (hkp.mono fun _ _ _ => trivial)) k hlt
   obtain ⟨AE, cE, rfl, -⟩ := hE.ex
   have hc := Lib.hid (same_any wr b3 (ks[k]).slot y (ks[k]).first (.slice AE (ks[k]).recs.length cE) rfl (hkp.cell HY.out trivial) false (by have := HN.out k hlt; simp; omega))
   have HK := Lib.hid hkp
   clear hE hkp
   generalize ks[k] = sg at d0 d1 d2 hc
   go_wp2_with fail
   refine hc.out.mono ?_
   rintro e w1 ⟨rfl, hk1⟩
   have HK1 := Lib.hid (HK.out.trans hk1)
   clear hk1
   go_wp2_with fail
   go_roundw
   case rel => exact ⟨k + 1, by omega, by go_num, HK1.out⟩
   case measure => simp [intOf]; omega
  ·obtain rfl : k = ks.length := by omega
   have HK := Lib.hid hkp
   clear hkp
   go_wp2_with fail
   go_ret
   exact ⟨rfl, HK.out⟩
set_option maxRecDepth 100000 in
set_option maxHeartbeats 1000000 in
theorem index_zero (hs : SegsAt w A G ks) (hy : w.cell? ⟨b3, 0, none⟩ = some (.int .i64 (y : Int))) (hl : ks.length ≤ 4096) (hp : 0 < ks.length) (he : (ks[0]).slot = y) :
  Calls Tryz.prog 170 #[.slice A ks.length c, .func (.func 133) #[] #[.pointer (some ⟨b3, 0, none⟩)]] w fun e w' => e = .returned (.int .i64 0) ∧ Kp w w' := by
 have HS := Lib.hid hs
 have HY := Lib.hid hy
 have HE := Lib.hid he
 clear hs hy he
 go_enter Tryz.func170, Tryz.ntmps170
 go_wp2_with fail
 go_loopw [8] (fun vk wr => vk = .int .i64 0 ∧ Kp w wr) (fun vk _ => 0)
 case atStart => exact ⟨rfl, Keeps.refl _ _⟩
 case round =>
  obtain ⟨rfl, hkp⟩ := hrel
  obtain ⟨b, o, E, rfl, hbM, d0, d1, d2, hE⟩ := (HS.out.keep (hkp.mono fun _ _ _ => trivial)) 0 hp
  obtain ⟨AE, cE, rfl, -⟩ := hE.ex
  have hc := Lib.hid (same_any wr b3 (ks[0]).slot y (ks[0]).first (.slice AE (ks[0]).recs.length cE) rfl (hkp.cell HY.out trivial) true (by rw [HE.out]; simp))
  have HK := Lib.hid hkp
  simp only [Nat.zero_mul, Nat.add_zero] at d0 d1 d2
  clear hE hkp HE
  generalize ks[0] = sg at d0 d1 d2 hc
  have hp' : (0 : Int) < (ks.length : Int) := by omega
  go_wp2_with fail
  refine hc.out.mono ?_
  rintro e w1 ⟨rfl, hk1⟩
  have HK1 := Lib.hid (HK.out.trans hk1)
  clear hk1
  go_wp2_with fail
  go_ret
  exact ⟨rfl, HK1.out⟩
set_option maxRecDepth 100000 in
set_option maxHeartbeats 1000000 in
theorem delete_none (hs : SegsAt w A G ks) (hy : w.cell? ⟨b3, 0, none⟩ = some (.int .i64 (y : Int))) (hl : ks.length ≤ 4096) (hne : ∀ k (h : k < ks.length), (ks[k]).slot ≠ y) :
  Calls Tryz.prog 132 #[.slice A ks.length c, .func (.func 133) #[] #[.pointer (some ⟨b3, 0, none⟩)]] w fun e w' => e = .returned (.slice A ks.length c) ∧ Kp w w' := by
 have HI := Lib.hid (index_none w A c b3 y G ks hs hy hl hne)
 clear hs hy hne
 go_enter Tryz.func132, Tryz.ntmps132
 go_wp2_with fail
 refine HI.out.mono ?_
 rintro e w1 ⟨rfl, hk1⟩
 have HK1 := Lib.hid hk1
 clear hk1
 go_wp2_with fail
 go_ret
 exact ⟨rfl, HK1.out⟩
end
theorem list_clear {P : Program} {w : World} {ops : Array Oper} {rest : List Oper} {o : Oper} {a : Act} {Q : Exit → Act → World → Prop} {base n c g size : Nat} {e : TypeId} {xs : List Value} (hgd : o.guard = none) (x : Operand) (t : TypeId) (ho : o.op = .call { callee := .builtin .clear, args := #[x], argTypes := #[t] }) (hu : P.underlying t = some (.slice e)) (z : Value) (hz : ∀ w, (zeroValue e).run P w = .ok z w)
  (hown : w.ownsRow base e size (.slice (some ⟨g, 0, none⟩) n c) n xs) (j cc : Nat) (hx : a.eval x = .slice (some ⟨g, j, none⟩) 1 cc) (cs : List Value) (hcs : (Builtin.zeroCells z.cells 1).toList = cs) (hfit : j + cs.length ≤ xs.length) (h1 : ∀ v ∈ cs, v.oneCell' = true)
  (hK : ∀ w', w'.ownsRow base e size (.slice (some ⟨g, 0, none⟩) n c) n (xs.take j ++ cs ++ xs.drop (j + cs.length)) → w.grownBy w' (some g) → wpList P ops Q rest (a.put o.dst (.tuple #[])) w') : wpList P ops Q (o :: rest) a w := by
 obtain ⟨cur, hg, hl, h2, h3⟩ := own_splice hown j cs hfit
 have hst := run_storeCells_at P g j e cs 0 cur w hg (by simpa using hl) h1
 simp only [Nat.add_zero] at hst
 generalize w.setRow g (cur.toList.take j ++ cs ++ cur.toList.drop (j + cs.length)).toArray = w2 at hst h2 h3
 refine wpList_plain hgd fun K hh => ?_
 unfold Oper.wp execOp
 simp [ho, resolve, invoke, builtin, hx, Builtin.clear_, run_underlying hu, hz, hcs, hst, Result.andThen]
 exact hh _ _ (hK _ h2 h3)
def midP (d : List SegP) (i : Nat) : List Value := (encP d.tail).take (i * 3) ++ (encP d).drop (i * 3)
theorem encP_tail (x : SegP) (d : List SegP) : encP (x :: d) = x.enc ++ encP d := rfl
theorem midP_len (d : List SegP) (i : Nat) (h : i + 1 ≤ d.length) : (midP d i).length = d.length * 3 := by
 unfold midP
 rw [List.length_append, List.length_take, List.length_drop, encP_len, encP_len, List.length_tail]
 omega
theorem midP_zero (d : List SegP) : midP d 0 = encP d := by simp [midP]
theorem midP_at (d : List SegP) (i t : Nat) (h : i + 1 < d.length) (ht : t < 3) : (midP d i)[(i + 1) * 3 + t]? = ((d[i + 1]).enc)[t]? := by
 unfold midP
 have hl : ((encP d.tail).take (i * 3)).length = i * 3 := by rw [List.length_take, encP_len, List.length_tail]; omega
 rw [List.getElem?_append_right (by omega), hl, List.getElem?_drop, show i * 3 + ((i + 1) * 3 + t - i * 3) = (i + 1) * 3 + t by omega]
 exact encP_at d (i + 1) h t ht
theorem encP_take (d : List SegP) (i : Nat) (h : i < d.length) : (encP d).take ((i + 1) * 3) = (encP d).take (i * 3) ++ (d[i]).enc := by
 have hl : (d[i]).enc.length = 3 := by simp [SegP.enc, Seg.cells]
 apply List.ext_getElem?
 intro j
 rw [List.getElem?_take]
 by_cases h1 : j < i * 3
 ·rw [if_pos (by omega), List.getElem?_append_left (by rw [List.length_take, encP_len]; omega), List.getElem?_take, if_pos h1]
 ·rw [List.getElem?_append_right (by rw [List.length_take, encP_len]; omega), List.length_take, encP_len, show min (i * 3) (d.length * 3) = i * 3 by omega]
  by_cases h2 : j < (i + 1) * 3
  ·rw [if_pos h2, ← encP_at d i h (j - i * 3) (by omega), show i * 3 + (j - i * 3) = j by omega]
  ·rw [if_neg h2, List.getElem?_eq_none (by omega)]
theorem midP_next (d : List SegP) (i : Nat) (h : i + 1 < d.length) : (midP d i).take (i * 3) ++ (d[i + 1]).enc ++ (midP d i).drop (i * 3 + (d[i + 1]).enc.length) = midP d (i + 1) := by
 have hl : ((encP d.tail).take (i * 3)).length = i * 3 := by rw [List.length_take, encP_len, List.length_tail]; omega
 have h3 : (d[i + 1]).enc.length = 3 := by simp [SegP.enc, Seg.cells]
 have ht : d.tail[i]'(by rw [List.length_tail]; omega) = d[i + 1] := by rw [List.getElem_tail]
 have e1 : (midP d i).take (i * 3) = (encP d.tail).take (i * 3) := by unfold midP; rw [List.take_append_of_le_length (by omega), List.take_of_length_le (by omega)]
 have e2 : (midP d i).drop (i * 3 + 3) = (encP d).drop ((i + 1) * 3) := by
  unfold midP
  rw [List.drop_append, List.drop_eq_nil_of_le (by omega), List.nil_append, hl, List.drop_drop]
  congr 1; omega
 rw [h3, e1, e2]
 unfold midP
 rw [encP_take d.tail i (by rw [List.length_tail]; omega), ht]
theorem midP_last (d : List SegP) (i : Nat) (h : i + 1 = d.length) (cs : List Value) (hcs : cs.length = 3) : ((midP d i).take (i * 3) ++ cs ++ (midP d i).drop (i * 3 + cs.length)).take (i * 3) = encP d.tail := by
 have hl : ((encP d.tail).take (i * 3)).length = i * 3 := by rw [List.length_take, encP_len, List.length_tail]; omega
 have e1 : (midP d i).take (i * 3) = (encP d.tail).take (i * 3) := by unfold midP; rw [List.take_append_of_le_length (by omega), List.take_of_length_le (by omega)]
 rw [e1, List.append_assoc, List.take_append_of_le_length (by omega), List.take_of_length_le (by omega), List.take_of_length_le (by rw [encP_len, List.length_tail]; omega)]
theorem own_shorter {w : World} {base n c g size m : Nat} {e : TypeId} {xs : List Value} (h : w.ownsRow base e size (.slice (some ⟨g, 0, none⟩) n c) n xs) (hm : m ≤ n) : w.ownsRow base e size (.slice (some ⟨g, 0, none⟩) m c) m (xs.take (m * size)) := by
 have hle : m * size ≤ n * size := Nat.mul_le_mul_right _ hm
 refine ⟨by rw [List.length_take, h.1]; omega, ?_⟩
 rcases h.2 with ⟨e0, _⟩ | ⟨g', cap', cur, e0, hb, hg, hn, hcm, hs, ht⟩
 ·cases e0
 ·injection e0 with e1 _ e3
  injection e1 with e1
  injection e1 with e1
  subst e1; subst e3
  exact .inr ⟨g, c, cur, rfl, hb, hg, by omega, hcm, hs, by rw [← ht, List.take_take, Nat.min_eq_left hle]⟩
set_option maxRecDepth 100000 in
set_option maxHeartbeats 400000 in
theorem delete_first (w : World) (g c b3 y m : Nat) (d : List SegP) (hm : m = d.length) (ho : w.ownsRow 0 179 3 (.slice (some ⟨g, 0, none⟩) m c) m (encP d)) (hs : SegsAt w (some ⟨g, 0, none⟩) (fun _ => True) (d.map Prod.fst)) (hy : w.cell? ⟨b3, 0, none⟩ = some (.int .i64 (y : Int))) (hb3 : b3 ≠ g) (hl : d.length ≤ 4096) (hp : 0 < d.length)
  (he : (d[0]).1.slot = y) (hne : ∀ k (h : k < d.length), 0 < k → (d[k]).1.slot ≠ y) :
  Calls Tryz.prog 132 #[.slice (some ⟨g, 0, none⟩) m c, .func (.func 133) #[] #[.pointer (some ⟨b3, 0, none⟩)]] w fun e w' => e = .returned (.slice (some ⟨g, 0, none⟩) (m - 1) c) ∧
   w'.ownsRow 0 179 3 (.slice (some ⟨g, 0, none⟩) (m - 1) c) (m - 1) (encP d.tail) ∧ Keeps (fun b => b ≠ g) w w' := by
 have hroom := own_room ho
 have hcm := hroom.2
 unfold maxLen at hcm
 have hml : (d.map Prod.fst).length = m := by rw [List.length_map]; exact hm.symm
 have HI := Lib.hid (show Calls Tryz.prog 170 #[.slice (some ⟨g, 0, none⟩) m c, .func (.func 133) #[] #[.pointer (some ⟨b3, 0, none⟩)]] w fun e w' => e = .returned (.int .i64 0) ∧ Kp w w' from by
  have h := index_zero w (some ⟨g, 0, none⟩) c b3 y _ _ hs hy (by rw [List.length_map]; exact hl) (by rw [List.length_map]; exact hp) (by rw [List.getElem_map]; exact he)
  rw [hml] at h
  exact h)
 have HO := Lib.hid ho
 have HY := Lib.hid hy
 have HN := Lib.hid hne
 have HM := Lib.hid hm
 have hgl := (ho.lt g rfl).2
 have hroom1 := hroom.1
 have hmd : m ≤ d.length ∧ d.length ≤ m := by omega
 clear ho hs hy he hne hroom hm hml
 go_enter Tryz.func132, Tryz.ntmps132
 go_wp2_with fail
 refine HI.out.mono ?_
 rintro e w1 ⟨rfl, hk1⟩
 have HK1 := Lib.hid hk1
 clear hk1 HI
 go_wp2_with fail
 go_loopw [5, 6] (fun vi vj wr => ∃ i j : Nat, RowKit.Hid (j = i + 1) ∧ j ≤ m ∧ vi = .int .i64 i ∧ vj = .int .i64 j ∧ wr.ownsRow 0 179 3 (.slice (some ⟨g, 0, none⟩) m c) m (midP d i) ∧ Keeps (fun b => b ≠ g) w wr) (fun _ vj _ => m - (intOf vj).toNat)
 case atStart => exact ⟨0, 1, Lib.hid rfl, by omega, rfl, rfl, by rw [midP_zero]; exact HK1.out.own HO.out fun _ _ => trivial, HK1.out.mono fun _ _ _ => trivial⟩
 case round =>
  obtain ⟨i, j, hji, hj, rfl, rfl, hom, hkp⟩ := hrel
  have hjo := hji.out
  by_cases hlt : j < m
  ·have hid : i + 1 < d.length := by omega
   obtain ⟨sg, hsg⟩ : ∃ sg, d[i + 1] = sg := ⟨_, rfl⟩
   have hcell : ∀ t, t < 3 → wr.cell? ⟨g, j * 3 + t, none⟩ = (sg.enc)[t]? := fun t ht => by
    have h1 := midP_at d i t hid ht
    rw [hsg] at h1
    have hv : ∃ v, (sg.enc)[t]? = some v := ⟨_, List.getElem?_eq_getElem (by simp [SegP.enc, Seg.cells]; omega)⟩
    obtain ⟨v, hv⟩ := hv
    rw [hv] at h1 ⊢
    have := hom.cells (g := g) rfl _ v h1
    rw [WideShapes.add_plain, Nat.zero_add] at this
    rw [hjo]
    exact this
   have d0 : wr.cell? ⟨g, j * 3, none⟩ = some (.int .i64 (sg.1.slot : Int)) := (hcell 0 (by omega)).trans rfl
   have d1 : wr.cell? ⟨g, j * 3 + 1, none⟩ = some (.int .i64 (sg.1.first : Int)) := (hcell 1 (by omega)).trans rfl
   have d2 : wr.cell? ⟨g, j * 3 + 2, none⟩ = some sg.E := (hcell 2 (by omega)).trans rfl
   have hns : ((sg.1.slot : Int) == (y : Int)) = false := by
    have := HN.out (i + 1) hid (by omega)
    rw [hsg] at this
    simp; omega
   have HNX := Lib.hid (show (midP d i).take (i * 3) ++ (.int .i64 (sg.1.slot : Int) :: .int .i64 (sg.1.first : Int) :: sg.E :: (midP d i).drop (i * 3 + 3)) = midP d j from by
    have h := midP_next d i hid
    rw [hsg, List.append_assoc] at h
    rw [hjo]; exact h)
   have HML := Lib.hid (midP_len d i (by omega))
   have hc := Lib.hid (fun w' (hk : Kp wr w') => same_any w' b3 sg.1.slot y sg.1.first sg.E rfl (hk.cell (hkp.cell HY.out hb3) trivial) false hns)
   have HOM := Lib.hid hom
   have HK := Lib.hid hkp
   have HJI := Lib.hid hjo
   have hsl3 : sg.enc.length = 3 := rfl
   have hij : i < m := by omega
   obtain ⟨s1, A1, c1⟩ := sg
   simp only [SegP.E] at d2 hc HNX
   clear hcell hom hkp hsg hji hns
   obtain ⟨w0, hw0⟩ : ∃ w0, wr.alloc (.cells #[.int .i64 (s1.slot : Int), .int .i64 (s1.first : Int), .slice A1 s1.recs.length c1] 179) = w0 := ⟨_, rfl⟩
   have hk0 : Kp wr w0 := by rw [← hw0]; exact (Keeps.refl _ wr).alloc _
   have HBX := Lib.hid (show SBox w0 wr.heap.size s1.slot s1.first (.slice A1 s1.recs.length c1) from by rw [← hw0]; exact SBox.new wr s1.slot s1.first _)
   have HW0 := Lib.hid hw0
   have HK0 := Lib.hid hk0
   have HOM0 := Lib.hid (hk0.own HOM.out fun _ _ => trivial)
   clear hw0 hk0 hjo
   go_wp2_with fail
   rw [HW0.out]
   refine (hc.out w0 HK0.out).mono ?_
   rintro e w2 ⟨rfl, hk2⟩
   have hbx := HBX.out.keep hk2 trivial
   have e0 := hbx.s
   have e1 := hbx.f
   have e2 := hbx.e
   have HOM2 := Lib.hid (hk2.own HOM0.out fun _ _ => trivial)
   have HK2 := Lib.hid (HK.out.trans ((HK0.out.trans hk2).mono fun _ _ _ => trivial))
   clear hbx hk2 HOM HOM0 HK HK0 HBX HW0 d0 d1 d2 hc
   go_wp2_with (refine list_store_own rfl 179 (.tmp 33) (.tmp 32) rfl HOM2.out (i * 3) rfl [.int .i64 (s1.slot : Int), .int .i64 (s1.first : Int), .slice A1 s1.recs.length c1] _ rfl rfl (by kernel_rfl) (by rw [HML.out]; simp only [List.length_cons, List.length_nil]; omega) (fun v hv => by
    simp only [List.mem_cons, List.not_mem_nil, or_false] at hv
    rcases hv with rfl | rfl | rfl <;> rfl) ?_)
   intro w3 ho3 hg3
   have H3 := Lib.hid (show w3.ownsRow 0 179 3 (.slice (some ⟨g, 0, none⟩) m c) m (midP d j) from by
    rw [← HNX.out]; exact ho3)
   have HK3 := Lib.hid (HK2.out.trans (keeps_grown hg3))
   clear ho3 hg3 HK2 HOM2 HNX e0 e1 e2
   go_wp2_with fail
   go_roundw
   case rel => exact ⟨i + 1, j + 1, Lib.hid (by have := HJI.out; omega), by omega, by go_num, by go_num, by have e := HJI.out; rw [← e]; exact H3.out, HK3.out⟩
   case measure => simp [intOf]; omega
  ·obtain rfl : j = m := by omega
   have hil : i + 1 = d.length := by omega
   have hji2 : j - i = 1 := by omega
   have hij : i ≤ j := by omega
   have hic : i ≤ c := by omega
   have hne : ¬ c = i := by omega
   have HML := Lib.hid (midP_len d i (by omega))
   have HLA := Lib.hid (show ((midP d i).take (i * 3) ++ (Value.int .i64 0 :: Value.int .i64 0 :: Value.slice none 0 0 :: (midP d i).drop (i * 3 + 3))).take (i * 3) = encP d.tail from by
    have h := midP_last d i hil [.int .i64 0, .int .i64 0, .slice none 0 0] rfl
    rw [List.append_assoc] at h
    exact h)
   have HJ := Lib.hid (show i = j - 1 by omega)
   have HOM := Lib.hid hom
   have HK := Lib.hid hkp
   clear hom hkp hji hjo
   go_wp2_with (refine list_clear rfl (.tmp 38) 135 rfl Tryz.underlying135 _ Tryz.zeroValue179 HOM.out (i * 3) (c - i) rfl [.int .i64 0, .int .i64 0, .slice none 0 0] (by kernel_rfl) (by rw [HML.out]; simp only [List.length_cons, List.length_nil]; omega) (fun v hv => by
    simp only [List.mem_cons, List.not_mem_nil, or_false] at hv
    rcases hv with rfl | rfl | rfl <;> rfl) ?_)
   intro w3 ho3 hg3
   have H3 := Lib.hid (show w3.ownsRow 0 179 3 (.slice (some ⟨g, 0, none⟩) i c) i (encP d.tail) from by
    have h := own_shorter ho3 hij
    rw [HLA.out] at h
    exact h)
   have HK3 := Lib.hid (HK.out.trans (keeps_grown hg3))
   clear ho3 hg3 HK HOM
   go_wp2_with fail
   go_ret
   have e := HJ.out
   exact ⟨by rw [← e]; rfl, by rw [← e]; exact H3.out, HK3.out⟩
structure Good (rows : List (List UInt8)) (i n : Nat) (s : Seg) : Prop where
 ok : s.Ok
 on : SegOn rows i s
 slot : s.slot < n
 full : s.recs ≠ []
 first : s.first ≤ 274877906943
def VN (b f n : Nat) (u E : Value) : Nat → World → Value → Prop
 | 0 => IsV (.pointer (some ⟨b, 1, none⟩))
 | 1 => IsV (.int .i64 (f : Int))
 | 2 => IsV (.agg #[u, .int .i64 (f : Int), E])
 | 3 => IsV (.int .i64 (n : Int))
 | 4 => IsV (.int .i64 ((f : Int) + (n : Int)))
 | 5 => IsV (.int .i64 ((f : Int) + (n : Int)))
 | _ => fun _ _ => True
theorem VN_any {b f n : Nat} {u E : Value} (i : Nat) (w w' : World) (x : Value) (hv : VN b f n u E i w x) : VN b f n u E i w' x := by
 match i, hv with
 | 0, hv => exact hv
 | 1, hv => exact hv
 | 2, hv => exact hv
 | 3, hv => exact hv
 | 4, hv => exact hv
 | 5, hv => exact hv
 | n + 6, _ => trivial
set_option maxRecDepth 100000 in
set_option maxHeartbeats 1000000 in
theorem snext_any (w : World) (sl f : Nat) (A : Option Addr) (n c : Nat) (hf : f ≤ 274877906944) (hn : n ≤ 4096) :
  Calls Tryz.prog 118 #[.agg #[.int .i64 (sl : Int), .int .i64 (f : Int), .slice A n c]] w fun e w' => e = .returned (.int .i64 ((f : Int) + (n : Int))) ∧ Kp w w' := by
 have HB0 := Lib.hid (SBox.new w sl f (.slice A n c))
 have HK0 := Lib.hid (show Kp w (w.alloc (.cells #[.int .i64 (sl : Int), .int .i64 (f : Int), .slice A n c] 179)) from (Keeps.refl _ w).alloc _)
 go_enter Tryz.func118, Tryz.ntmps118
 go_wp2_with fail
 obtain ⟨w0, hw0⟩ : ∃ w0, w.alloc (.cells #[.int .i64 (sl : Int), .int .i64 (f : Int), .slice A n c] 179) = w0 := ⟨_, rfl⟩
 rw [hw0]
 rw [hw0] at HK0 HB0
 clear hw0
 refine wp_region_guard (R := Kp) (V := VN w.heap.size f n (.int .i64 (sl : Int)) (.slice A n c)) (w0 := w0) GE (by kernel_rfl) (fun w => Keeps.refl _ w) (fun _ _ _ h k => h.trans k) (fun i w w' v _ hv => VN_any i w w' v hv) (by kernel_rfl) GE_is (fun i o ho hw => (all_wanted (by kernel_rfl) ho hw).elim) ((Keeps.refl _ w0).drew) (each_of ?_) ?_
 ·refine ⟨?_, ?_, ?_, ?_, ?_, ?_, trivial⟩ <;> intro hw a1 w3 L
  ·exact kp_fG1 rfl (L.old 1 (by kernel_rfl))
  ·exact kp_lI64 (HB0.out.keep L.rel trivial).f rfl (L.val 0 3 (by kernel_rfl) (by kernel_rfl))
  ·have hb := HB0.out.keep L.rel trivial
   exact kp_lG hb.s hb.f hb.e rfl (L.old 1 (by kernel_rfl))
  ·have e0 : a1.eval (.tmp 5) = .agg #[.int .i64 (sl : Int), .int .i64 (f : Int), .slice A n c] := L.val 2 5 (by kernel_rfl) (by kernel_rfl)
   have hf : a1.eval (.func 148) = .func (.func 148) #[] #[] := rfl
   refine kp_enter (f := 148) (args := #[.agg #[.int .i64 (sl : Int), .int .i64 (f : Int), .slice A n c]]) ?_ (count_any w3 _ _ A n c rfl rfl) ?_
   ·clear L
    generalize a1.eval = ρ at e0 hf ⊢
    unfold execOp
    go_simp
   ·rintro e w' ⟨rfl, hk⟩
    exact ⟨_, rfl, hk, rfl⟩
  ·have e0 : a1.eval (.tmp 4) = .int .i64 (f : Int) := L.val 1 4 (by kernel_rfl) (by kernel_rfl)
   have e1 : a1.eval (.tmp 6) = .int .i64 (n : Int) := L.val 3 6 (by kernel_rfl) (by kernel_rfl)
   have hw1 : IntKind.i64.wrap ((f : Int) + (n : Int)) = (f : Int) + (n : Int) := by rw [IntKind.wrap_i64]; omega
   refine kp_yield (v := .int .i64 ((f : Int) + (n : Int))) (w' := w3) ?_ (Keeps.refl _ _) rfl
   clear L
   generalize a1.eval = ρ at e0 e1 ⊢
   unfold execOp
   go_simp
  ·exact kp_assign rfl (L.val 4 7 (by kernel_rfl) (by kernel_rfl))
 ·intro vs w4 hk4 hlen4 hv
  match vs, hlen4 with
  | [v0, v1, v2, v3, v4, v5], _ =>
   have e5 : v5 = .int .i64 ((f : Int) + (n : Int)) := hv 5 2 (by kernel_rfl)
   clear hv
   subst e5
   simp only [putAll, List.map, Act.put, List.setIfInBounds_toArray, List.set_cons_succ, List.set_cons_zero, Exit.then]
   have HK4 := Lib.hid (HK0.out.trans hk4)
   clear hk4
   go_wp2_with fail
   go_ret
   exact ⟨rfl, HK4.out⟩
theorem src_recs (W : World) (base g c m : Nat) (ps : List (Nat × List UInt8)) (vs : List Value) (hm : m = ps.length) (h : vs.length = ps.length) (hv : ∀ v ∈ vs, v.oneCell' = true) (ho : W.ownsRow base 172 2 (.slice (some ⟨g, 0, none⟩) m c) m (recC ps vs)) :
  Src Tryz.prog 2 169 (.slice (some ⟨g, 0, none⟩) m c) m (recC ps vs) W :=
 Src.ofSlice _ Tryz.underlying169 ⟨g, 0, none⟩ m c (recC ps vs) (by rw [recC_len _ _ h, hm]) (fun j v hj => ho.cells (g := g) rfl j v hj) (recC_one _ _ hv)
theorem flat_take (ks : List Seg) (k : Nat) (h : k < ks.length) : ((ks.take (k + 1)).flatMap Seg.recs).map LRec.key = ((ks.take k).flatMap Seg.recs).map LRec.key ++ ((ks[k]).recs).map LRec.key := by
 rw [take_next _ _ h, List.flatMap_append, List.map_append, List.flatMap_cons, List.flatMap_nil, List.append_nil]
set_option maxRecDepth 100000 in
set_option maxHeartbeats 2000000 in
theorem lall_any (w : World) (hT : Taken w) (q : Nat) (Fs : Foot) (p i n : Nat) (ks : List Seg) (sl left nx : Nat) (tl : List UInt8) (K T : Value) (Es : List Value) (h : LogAt w q Fs p i n ks sl left nx tl K T Es) (F : Foot) (s : SDev) (hd : DAt w p F s)
  (hg : ∀ sg ∈ ks, Good s.now i n sg) (hn : n ≤ 200) (hin : i + 8 * n ≤ s.now.length) (hkn : ks.length ≤ n) :
  Calls Tryz.prog 97 #[.pointer (some ⟨q, 0, none⟩)] w fun e w' => ∃ v, e = .returned v ∧ RecRow w' w.heap.size v ((ks.flatMap Seg.recs).map LRec.key) ∧ Kp w w' := by
 have hsm := hd.ok.small
 have HDN := Lib.hid (down_no w q p i n h.head)
 have HBD := Lib.hid (fun (w' : World) (hk : Kp w w') (sg : Seg) (E : Value) (hm : sg ∈ ks) (hE : SegV w' Fs.M sg E) => bodies_any w' (hT.keep hk) q p i n (h.head.keep hk trivial) F s (hd.keep (hk.mono fun _ _ _ => trivial)) sg E Fs.M hE (hg sg hm).ok (hg sg hm).full (hg sg hm).on (by omega) (by have := (hg sg hm).slot; omega) (hg sg hm).first (by have := (hg sg hm).slot; omega))
 have HCN := Lib.hid (fun (k : Nat) (hk : k ≤ ks.length) => (show (((ks.take k).flatMap Seg.recs).map LRec.key).length ≤ 212 * k from by
  induction k with
  | zero => simp
  | succ k ih =>
   have e : ((ks[k]).recs.map LRec.key).length = (ks[k]).recs.length := List.length_map ..
   rw [flat_take ks k hk, List.length_append, e]
   have := ih (Nat.le_of_succ_le hk)
   have := (hg _ (List.getElem_mem hk)).ok.count
   omega))
 have HGC := Lib.hid (fun (k : Nat) (hk : k < ks.length) => (hg _ (List.getElem_mem hk)).ok.count)
 have HFU := Lib.hid (fun (k : Nat) (hk : k < ks.length) => (hg _ (List.getElem_mem hk)).full)
 obtain ⟨A, c, rfl, hlc, hcm, hs⟩ := h.segs
 unfold maxLen at hcm
 have c3 := (cell_of_block h.blk 3).trans rfl
 have HSG := Lib.hid hs
 have hkn2 : ks.length ≤ 200 := by omega
 clear h hs hT hd hg
 go_enter Tryz.func97, Tryz.ntmps97
 go_wp2_with fail
 refine HDN.out.mono ?_
 rintro e w' ⟨rfl, rfl⟩
 go_wp2_with fail
 go_loopw [3, 13] (fun vo vj wr => ∃ (k : Nat) (u : Value), k ≤ ks.length ∧ vj = .int .i64 k ∧ u = vo ∧ RecRow wr w.heap.size u (((ks.take k).flatMap Seg.recs).map LRec.key) ∧ Kp w wr) (fun _ vj _ => ks.length - (intOf vj).toNat)
 case atStart => exact ⟨0, _, Nat.zero_le _, rfl, rfl, by rw [List.take_zero]; exact RecRow.nil _ _, Keeps.refl _ _⟩
 case round =>
  obtain ⟨k, u, hk, rfl, hu, hrr, hkp⟩ := hrel
  subst hu
  by_cases hlt : k < ks.length
  ·obtain ⟨b, o, E, rfl, hbM, d0, d1, d2, hE⟩ := (HSG.out.keep (hkp.mono fun _ _ _ => trivial)) k hlt
   obtain ⟨AE, cE, rfl, -⟩ := hE.ex
   have HRR := Lib.hid hrr
   have HK := Lib.hid hkp
   have HE := Lib.hid hE
   have hk2 : Kp wr (wr.alloc (.cells #[.int .i64 ((ks[k]).slot : Int), .int .i64 ((ks[k]).first : Int), .slice AE (ks[k]).recs.length cE] 179)) := (Keeps.refl _ wr).alloc _
   have HK2 := Lib.hid hk2
   have HFL := Lib.hid (flat_take ks k hlt)
   have HMEM := Lib.hid (List.getElem_mem hlt)
   have hcn := HCN.out k hk
   have hgc := HGC.out k hlt
   have HFK := Lib.hid (HFU.out k hlt)
   generalize ks[k] = sg at d0 d1 d2 HE HK2 HFL HMEM hgc HFK
   obtain ⟨w0, hw0⟩ : ∃ w0, wr.alloc (.cells #[.int .i64 (sg.slot : Int), .int .i64 (sg.first : Int), .slice AE sg.recs.length cE] 179) = w0 := ⟨_, rfl⟩
   have HW0 := Lib.hid hw0
   rw [hw0] at HK2
   clear hrr hkp hE hk2 hw0
   go_wp2_with fail
   rw [HW0.out]
   refine (HBD.out w0 (HK.out.trans HK2.out) sg _ HMEM.out (HE.out.keep (HK2.out.mono fun _ _ _ => trivial))).mono ?_
   rintro e' w1 ⟨vb, rfl, hrb, hk1⟩
   obtain ⟨us, hu1, hu2, hu3⟩ := hrb.ex
   have hlen1 : (sg.recs.map LRec.key).length = sg.recs.length := List.length_map ..
   have hpos : 0 < (sg.recs.map LRec.key).length := by rw [hlen1]; exact List.length_pos_iff.2 HFK.out
   obtain ⟨ml, hml⟩ : ∃ ml, (sg.recs.map LRec.key).length = ml := ⟨_, rfl⟩
   rw [hml] at hu2 hpos hlen1
   have hml2 : ml ≤ 212 := by omega
   clear hlen1
   obtain ⟨g, cg, rfl, hbase, hglt⟩ := hu2.form hpos
   have hkk : Kp wr w1 := HK2.out.trans hk1
   have HRR1 := Lib.hid (HRR.out.keep hkk)
   obtain ⟨vs0, hv1, hv2, hv3⟩ := HRR1.out.ex
   have hown : ∀ b, u.ownBlock = some b → b < wr.heap.size := fun b hb => by
    obtain ⟨vs1, q1, q2, q3⟩ := HRR.out.ex
    exact (q2.lt b hb).2
   have HOB := Lib.hid hown
   have huone : ∀ v ∈ us, v.oneCell' = true := fun v hv => by
    obtain ⟨j, hj, e⟩ := List.getElem_of_mem hv
    obtain ⟨B, cc, e2, -⟩ := hu3 j (by rw [← hu1]; exact hj)
    rw [List.getElem?_eq_getElem hj, e] at e2
    injection e2 with e2
    rw [e2]; rfl
   have HSR := Lib.hid (src_recs w1 _ g cg ml (sg.recs.map LRec.key) us hml.symm hu1 huone hu2)
   have HK1 := Lib.hid (HK.out.trans hkk)
   have HV1 := Lib.hid hv1
   obtain ⟨vl, hvl⟩ : ∃ vl, (((ks.take k).flatMap Seg.recs).map LRec.key).length = vl := ⟨_, rfl⟩
   rw [hvl] at hv2 hcn
   have HV2 := Lib.hid hv2
   have HV3 := Lib.hid hv3
   have HVL := Lib.hid hvl
   have HML := Lib.hid hml
   have HU1 := Lib.hid hu1
   have HU3 := Lib.hid hu3
   have hz1 := HK1.out.size
   have hz2 := HK2.out.size
   have hz3 := HK.out.size
   clear hvl hml
   clear hv1 hv2 hv3 hu1 hu2 hu3 hk1 hrb hkk huone hown HRR HK2 HE HRR1
   go_wp2_with (at_builtin; refine rec_elem.list_append rfl (.tmp 17) (.tmp 20) _ rfl rfl HV2.out rfl HSR.out ?c3 ?c4 hz1 ?_)
   case c3 => unfold maxLen; omega
   case c4 => omega
   intro v5 w5 ho5 hg5 hb5
   have hown4 := HV2.out
   have HR5 := Lib.hid (show RecRow w5 w.heap.size v5 (((ks.take (k + 1)).flatMap Seg.recs).map LRec.key) from by
    rw [HFL.out]
    refine RecRow.put (w := w1) (v := u) (vs := vs0) (us := us) HV1.out (by rw [HVL.out]; exact HV2.out) HV3.out HU1.out (fun j hj => ?_) (by rw [HVL.out, HML.out]; exact ho5) hg5 hb5
    obtain ⟨B, cc, e, hr⟩ := HU3.out j hj
    exact ⟨B, cc, e, hr.mono fun b _ hb => ⟨by omega, fun e => by have := HOB.out b e; omega⟩⟩)
   have HK5 := Lib.hid (show Kp w w5 from HK1.out.grown hg5 fun b hb => (hown4.lt b hb).1)
   clear ho5 hg5 hb5 hown4 HV1 HV2 HV3 HSR HU1 HU3
   go_wp2_with fail
   go_roundw
   case rel => exact ⟨k + 1, _, by omega, by go_num, rfl, HR5.out, HK5.out⟩
   case measure => simp [intOf]; omega
  ·obtain rfl : k = ks.length := by omega
   rw [List.take_length] at hrr
   have H1 := Lib.hid hrr
   have H2 := Lib.hid hkp
   clear hrr hkp
   go_wp2_with fail
   go_ret
   exact ⟨_, rfl, H1.out, H2.out⟩
def goes (full : Bool) (ks : List Seg) : List Seg := if full then ks.tail else ks
def goesE (full : Bool) (Es : List Value) : List Value := if full then Es.tail else Es
def Turn (full : Bool) (ks : List Seg) (y : Nat) : Prop := if full then 0 < ks.length ∧ (∀ h : 0 < ks.length, (ks[0]).slot = y) ∧ ∀ k (h : k < ks.length), 0 < k → (ks[k]).slot ≠ y else ∀ k (h : k < ks.length), (ks[k]).slot ≠ y
theorem LogAt.pairs {w : World} {q p i n sl left nx : Nat} {F : Foot} {ks : List Seg} {tl : List UInt8} {K T : Value} {Es : List Value} (h : LogAt w q F p i n ks sl left nx tl K T Es) : ∃ d : List SegP, d.map Prod.fst = ks ∧ d.map SegP.E = Es := by
 have hl := h.ends.len
 have hform : ∀ j (hj : j < ks.length), ∃ A c, Es[j]'(by omega) = .slice A (ks[j]).recs.length c := fun j hj => by
  obtain ⟨A, c, e, -, -⟩ := own_slice (h.ends.own j hj)
  exact ⟨A, c, e⟩
 clear h
 induction ks generalizing Es with
 | nil => exact ⟨[], rfl, (List.eq_nil_of_length_eq_zero (by simpa using hl)).symm⟩
 | cons s ks ih =>
  cases Es with
  | nil => cases hl
  | cons E Es =>
   obtain ⟨A, c, e⟩ := hform 0 (by simp)
   obtain ⟨d, h1, h2⟩ := ih (Es := Es) (by simpa using hl) (fun j hj => by
    obtain ⟨A, c, e⟩ := hform (j + 1) (by simpa using hj)
    exact ⟨A, c, by simpa using e⟩)
   refine ⟨(s, (A, c)) :: d, by simp [h1], ?_⟩
   simp only [List.map_cons, h2]
   have : SegP.E (s, (A, c)) = E := by simpa [SegP.E] using e.symm
   rw [this]
theorem SegsAt.any {w : World} {A : Option Addr} {G H : Nat → Prop} {ks : List Seg} (h : SegsAt w A G ks) (hh : ∀ b, G b → H b) : SegsAt w A H ks := fun k hl => by
 obtain ⟨b, o, E, e, hG, c0, c1, c2, hE⟩ := h k hl
 exact ⟨b, o, E, e, hh b hG, c0, c1, c2, hE.mono hh⟩
theorem delete_any (w : World) (q : Nat) (F : Foot) (p i n : Nat) (ks : List Seg) (sl left nx : Nat) (tl : List UInt8) (K T : Value) (Es : List Value) (h : LogAt w q F p i n ks sl left nx tl K T Es) (hl : ks.length ≤ 4096) (b3 y : Nat) (hy : w.cell? ⟨b3, 0, none⟩ = some (.int .i64 (y : Int))) (hb3 : K.ownBlock ≠ some b3) (full : Bool) (hf : Turn full ks y) :
  Calls Tryz.prog 132 #[K, .func (.func 133) #[] #[.pointer (some ⟨b3, 0, none⟩)]] w fun e w' => ∃ K6, e = .returned K6 ∧ K6.ownBlock = K.ownBlock ∧
   w'.ownsRow 0 179 3 K6 (goes full ks).length (segC (goes full ks) (goesE full Es)) ∧ Keeps (fun b => K.ownBlock ≠ some b) w w' := by
 obtain ⟨A, c, e, hlc, hcm, hs⟩ := h.segs
 have hrow := h.row
 subst e
 cases full with
 | false =>
  refine (delete_none w A c b3 y F.M ks hs hy hl hf).mono ?_
  rintro e w' ⟨rfl, hk⟩
  exact ⟨_, rfl, rfl, hk.own hrow fun _ _ => trivial, hk.mono fun _ _ _ => trivial⟩
 | true =>
  obtain ⟨hp, hz, hne⟩ := hf
  obtain ⟨d, h1, h2⟩ := h.pairs
  have hdl : d.length = ks.length := by rw [← h1, List.length_map]
  obtain ⟨g, c', e, -, -⟩ := hrow.form hp
  injection e with e1 _ e3
  subst e1 e3
  rw [← h1, ← h2, segC_encP] at hrow
  have hs' := hs.any (H := fun _ => True) fun _ _ => trivial
  rw [← h1] at hs'
  have hd0 : ∀ k (hk : k < d.length), (d[k]).1 = ks[k]'(by omega) := fun k hk => by
   have : (d.map Prod.fst)[k]'(by simpa using hk) = ks[k]'(by omega) := by simp only [h1]
   rw [← this, List.getElem_map]
  have hm : (d.map Prod.fst).length = d.length := List.length_map ..
  rw [hm] at hrow
  rw [hdl] at hm
  refine (show Calls _ _ _ _ _ from delete_first w g c b3 y ks.length d hdl.symm (by rw [← hdl]; exact hrow) hs' hy (fun e => hb3 (by rw [e]; rfl)) (by omega) (by omega) (by rw [hd0 0 (by omega)]; exact hz (by omega)) (fun k hk h0 => by rw [hd0 k hk]; exact hne k (by omega) h0)).mono ?_
  rintro e w' ⟨rfl, ho, hk⟩
  refine ⟨_, rfl, rfl, ?_, hk.mono fun b _ hb e => hb (by rw [e]; rfl)⟩
  have e1 : goes true ks = d.tail.map Prod.fst := by show ks.tail = _; rw [← h1, List.map_tail]
  have e2 : goesE true Es = d.tail.map SegP.E := by show Es.tail = _; rw [← h2, List.map_tail]
  rw [e1, e2, segC_encP, List.length_map, List.length_tail, hdl]
  exact ho
structure LogMid (w : World) (q p i n : Nat) (ks : List Seg) (sl left nx : Nat) (K T : Value) (Es : List Value) : Prop where
 blk : LBlk w q p i n K sl left T nx
 row : w.ownsRow 0 179 3 K ks.length (segC ks Es)
 ends : EndsOwn w (fun b => b = q ∨ K.ownBlock = some b) ks Es
 kq : ∀ b, K.ownBlock = some b → b ≠ q
def hasB (q : Nat) (K : Value) (Es : List Value) (b : Nat) : Prop := b = q ∨ K.ownBlock = some b ∨ ∃ E ∈ Es, E.ownBlock = some b
section
variable {w w' : World} {q p i n sl left nx : Nat} {F : Foot} {ks : List Seg} {tl : List UInt8} {K T K' : Value} {Es : List Value}
theorem LogAt.mid (h : LogAt w q F p i n ks sl left nx tl K T Es) : LogMid w q p i n ks sl left nx K T Es := ⟨h.blk, h.row, h.ends, h.kq⟩
theorem LogMid.lt (h : LogMid w q p i n ks sl left nx K T Es) : ∀ b, hasB q K Es b → b < w.heap.size := fun b hb => by
 rcases hb with rfl | hb | ⟨E, hE, hb⟩
 ·exact (Array.getElem?_eq_some_iff.1 h.blk).1
 ·exact (h.row.lt b hb).2
 ·obtain ⟨j, hj, rfl⟩ := List.getElem_of_mem hE
  exact ((h.ends.own j (by have := h.ends.len; omega)).lt b hb).2
theorem goesE_mem {full : Bool} {E : Value} (hE : E ∈ goesE full Es) : E ∈ Es := by
 cases full
 ·exact hE
 ·exact List.mem_of_mem_tail hE
theorem EndsOwn.tail {X : Nat → Prop} (h : EndsOwn w X ks Es) : EndsOwn w X ks.tail Es.tail := by
 cases ks with
 | nil =>
  cases Es with
  | nil => exact h
  | cons E Es => exact absurd h.len (by simp)
 | cons s ks =>
  cases Es with
  | nil => exact absurd h.len (by simp)
  | cons E Es =>
   refine ⟨by simpa using h.len, fun j hj => ?_, fun F hF => h.out F (List.mem_cons_of_mem _ hF), (List.pairwise_cons.1 h.two).2⟩
   have h1 := h.own (j + 1) (by simpa using hj)
   simpa using h1
theorem EndsOwn.goes {X : Nat → Prop} (h : EndsOwn w X ks Es) (full : Bool) : EndsOwn w X (goes full ks) (goesE full Es) := by
 cases full
 ·exact h
 ·exact h.tail
theorem LogMid.cut (h : LogMid w q p i n ks sl left nx K T Es) (full : Bool) (he : K'.ownBlock = K.ownBlock) (hr : w'.ownsRow 0 179 3 K' (goes full ks).length (segC (goes full ks) (goesE full Es))) (hk : Keeps (fun b => K.ownBlock ≠ some b) w w') :
  LogMid (w'.setCell ⟨q, 3, none⟩ K') q p i n (goes full ks) sl left nx K' T (goesE full Es) := by
 have hb := h.blk.keep hk (fun e => h.kq q e rfl)
 have hs : Keeps (fun b => b ≠ q) w' (w'.setCell ⟨q, 3, none⟩ K') := (Keeps.refl _ w').setCell (.inr fun hn => hn rfl) _
 refine ⟨block_setCell hb (i := 3) K', hs.own hr fun b e => h.kq b (by rw [← he]; exact e), ?_, fun b e => h.kq b (by rw [← he]; exact e)⟩
 have h1 := (h.ends.goes full).keep (hk) fun E hE b e e2 => h.ends.out E (goesE_mem hE) b e (.inr e2)
 have h2 := h1.keep hs fun E hE b e e2 => h.ends.out E (goesE_mem hE) b e (.inl e2)
 exact ⟨h2.len, h2.own, fun E hE b e hx => h.ends.out E (goesE_mem hE) b e (hx.imp id fun e2 => by rw [← he]; exact e2), h2.two⟩
theorem LogMid.put (h : LogMid w q p i n ks sl left nx K T Es) (sg : Seg) (E : Value) (hsg : sg.recs = []) (hE : E = .slice none 0 0) (w0 : World) (h0 : Kp w w0) (hr : w'.ownsRow 0 179 3 K' (ks.length + 1) (segC ks Es ++ sg.cells E)) (hg : w0.grownBy w' K.ownBlock) (hb : K'.ownBlock = K.ownBlock ∨ K'.ownBlock = some w0.heap.size) :
  LogMid (w'.setCell ⟨q, 3, none⟩ K') q p i n (ks ++ [sg]) sl left nx K' T (Es ++ [E]) := by
 subst hE
 have hlt := h.lt
 have hk : Keeps (fun b => K.ownBlock ≠ some b) w w' := (h0.mono fun _ _ _ => trivial).trans (Keeps.of_grown hg fun b e _ hn => hn e)
 have hqs := hlt q (.inl rfl)
 have hz := h0.size
 have hbq : ∀ b, K'.ownBlock = some b → b ≠ q := fun b e => by
  rcases hb with e2 | e2
  ·exact h.kq b (by rw [← e2]; exact e)
  ·rw [e2] at e; injection e with e; omega
 have hbl := h.blk.keep hk (fun e => h.kq q e rfl)
 have hs : Keeps (fun b => b ≠ q) w' (w'.setCell ⟨q, 3, none⟩ K') := (Keeps.refl _ w').setCell (.inr fun hn => hn rfl) _
 have h1 := h.ends.keep hk fun E hE b e e2 => h.ends.out E hE b e (.inr e2)
 have h2 := h1.keep hs fun E hE b e e2 => h.ends.out E hE b e (.inl e2)
 have hc : segC (ks ++ [sg]) (Es ++ [.slice none 0 0]) = segC ks Es ++ sg.cells (.slice none 0 0) := by rw [segC_append _ _ _ _ h.ends.len]; simp [segC]
 refine ⟨block_setCell hbl (i := 3) K', by rw [List.length_append, hc]; exact hs.own hr hbq, ⟨by simp [h.ends.len], fun j hj => ?_, fun E hE b e hx => ?_, ?_⟩, hbq⟩
 ·by_cases hlt : j < ks.length
  ·rw [List.getElem_append_left hlt, List.getElem_append_left (by rw [h.ends.len]; exact hlt)]
   exact h2.own j hlt
  ·have hj' : j = ks.length := by simp at hj; omega
   subst hj'
   rw [List.getElem_concat_length rfl, List.getElem_concat_length h.ends.len.symm, hsg]
   exact World.ownsRow_nil _ _ _ _
 ·rcases List.mem_append.1 hE with hE | hE
  ·rcases hx with hx | hx
   ·exact h.ends.out E hE b e (.inl hx)
   ·rcases hb with e2 | e2
    ·exact h.ends.out E hE b e (.inr (by rw [← e2]; exact hx))
    ·rw [e2] at hx; injection hx with hx
     have := hlt b (.inr (.inr ⟨E, hE, e⟩))
     omega
  ·rw [List.mem_singleton.1 hE] at e; cases e
 ·refine List.pairwise_append.2 ⟨h.ends.two, by simp, fun a ha b hb => ?_⟩
  rw [List.mem_singleton.1 hb]
  intro x _ e; cases e
theorem LogMid.set (h : LogMid w q p i n ks sl left nx K T Es) {sl' left' nx' : Nat} {T' : Value} (hb : LBlk w' q p i n K sl' left' T' nx') (hk : Keeps (fun b => b ≠ q) w w') : LogMid w' q p i n ks sl' left' nx' K T' Es :=
 ⟨hb, hk.own h.row h.kq, h.ends.keep hk fun E hE b e e2 => h.ends.out E hE b e (.inl e2), h.kq⟩
theorem LogMid.at_ (h : LogMid w q p i n ks sl left nx K T Es) (I : Nat → Prop) (hI : ∀ b, I b → b < w.heap.size) (hd : ∀ b, hasB q K Es b → ¬ I b) (ht : ∃ A c, T = .slice A tl.length c ∧ tl.length ≤ c ∧ c ≤ maxLen ∧ Row w A I (bcells tl)) : LogAt w q ⟨hasB q K Es, I⟩ p i n ks sl left nx tl K T Es :=
 ⟨h.blk, h.row, h.ends, h.kq, ht, .inl rfl, fun b e => .inr (.inl e), fun E hE b e => .inr (.inr ⟨E, hE, e⟩), fun b hb => hb.elim (h.lt b) (hI b), hd⟩
end
structure Went (w w' : World) (F F' Fs Fs' : Foot) : Prop where
 ap : Apart F' Fs'
 k : Keeps (fun b => ¬ F.M b ∧ ¬ Fs.M b) w w'
 f1 : ∀ b, F'.M b → F.M b ∨ w.heap.size ≤ b
 f2 : ∀ b, F'.I b → F.all b ∨ w.heap.size ≤ b
 f3 : ∀ b, Fs'.M b → Fs.M b ∨ w.heap.size ≤ b
 f4 : ∀ b, Fs'.I b → Fs.all b ∨ w.heap.size ≤ b
theorem hasB_nil {q : Nat} {K : Value} {Es : List Value} {b : Nat} (h : hasB q K (Es ++ [.slice none 0 0]) b) : hasB q K Es b := by
 rcases h with h | h | ⟨E, hE, h⟩
 ·exact .inl h
 ·exact .inr (.inl h)
 ·rcases List.mem_append.1 hE with hE | hE
  ·exact .inr (.inr ⟨E, hE, h⟩)
  ·rw [List.mem_singleton.1 hE] at h; cases h
theorem own_form {w : World} {base n size : Nat} {e : TypeId} {v : Value} {xs : List Value} (h : w.ownsRow base e size v n xs) : ∃ A c, v = .slice A n c := by
 rcases h.2 with ⟨rfl, h0⟩ | ⟨g, cap, cur, rfl, r⟩
 ·exact ⟨none, 0, by rw [h0]⟩
 ·exact ⟨_, _, rfl⟩
theorem src_seg (W : World) (sl nx : Nat) : Src Tryz.prog 3 135 (.slice (some ⟨W.heap.size, 0, none⟩) 1 1) 1 ((⟨sl, nx, []⟩ : Seg).cells (.slice none 0 0)) (W.alloc (.cells #[.int .i64 (sl : Int), .int .i64 (nx : Int), .slice none 0 0] 179)).drew :=
 Src.ofSlice _ Tryz.underlying135 ⟨W.heap.size, 0, none⟩ 1 1 _ rfl (fun j v hv => by
  rw [WideShapes.add_plain, Nat.zero_add]
  exact (cell_alloc_mark_at W _ _ _ W.heap.size j rfl).trans (by rw [← hv, ← Array.getElem?_toList]; rfl)) (fun v hv => by
  simp only [Seg.cells, List.mem_cons, List.not_mem_nil, or_false] at hv
  rcases hv with rfl | rfl | rfl <;> rfl)
set_option maxRecDepth 100000 in
set_option maxHeartbeats 1000000 in
theorem begin_any (w : World) (hT : Taken w) (q : Nat) (Fs : Foot) (p i n : Nat) (ks : List Seg) (sl left nx : Nat) (tl : List UInt8) (K T : Value) (Es : List Value) (h : LogAt w q Fs p i n ks sl left nx tl K T Es) (F : Foot) (s : SDev) (hd : DAt w p F s) (ha : Apart F Fs) (hTM : ¬ F.M 0)
  (full : Bool) (hf : Turn full ks sl) (hi : i ≤ 2048) (hn : n ≤ 200) (hsl : sl < n) (hin : i + 8 * n ≤ s.now.length) (hnx : 1 ≤ nx) (hnx2 : nx ≤ 274877906943) (hkl : ks.length ≤ 200) (hcalls : s.calls ≤ 549755813888 + 100) :
  Calls Tryz.prog 105 #[.pointer (some ⟨q, 0, none⟩)] w fun e w' => e = .returned (.int .i64 0) ∧ ∃ (F' Fs' : Foot) (K' : Value) (Es' : List Value), DAt w' p F' ((s.write (i + sl * 8) (encL (nx * 8) [])).flush) ∧
   LogAt w' q Fs' p i n (goes full ks ++ [⟨sl, nx, []⟩]) ((sl + 1) % n) 424 nx [] K' (.slice none 0 0) Es' ∧ Went w w' F F' Fs Fs' := by
 have hsm := hd.ok.small
 have hqlt : q < w.heap.size := h.lt q (.inl h.mq)
 have c4 := (cell_of_block h.blk 4).trans rfl
 have c7 := (cell_of_block h.blk 7).trans rfl
 have HA := Lib.hid h
 have HD := Lib.hid hd
 have HAP := Lib.hid ha
 have HT := Lib.hid hT
 have HTM := Lib.hid hTM
 have HF := Lib.hid hf
 have hin2 : i + sl * 8 < s.now.length := by omega
 have hk1 : Kp w (w.alloc (.cells #[.int .i64 (sl : Int), .int .i64 (nx : Int), .slice none 0 0] 179)).drew := ((Keeps.refl _ w).alloc _).drew
 have hb1 : (w.alloc (.cells #[.int .i64 (sl : Int), .int .i64 (nx : Int), .slice none 0 0] 179)).drew.heap[w.heap.size]? = some (.cells #[.int .i64 (sl : Int), .int .i64 (nx : Int), .slice none 0 0] 179 (0, 0)) := heap_alloc_new w _
 have hz1 : (w.alloc (.cells #[.int .i64 (sl : Int), .int .i64 (nx : Int), .slice none 0 0] 179)).drew.heap.size = w.heap.size + 1 := by simp
 have HK1 := Lib.hid hk1
 have HB1 := Lib.hid hb1
 have HZ1 := Lib.hid hz1
 obtain ⟨r, hr⟩ : ∃ r, (sl + 1) % n = r := ⟨_, rfl⟩
 have HR := Lib.hid hr
 rw [hr]
 clear h hd ha hT hTM hf hk1 hb1 hz1 hin hr
 go_enter Tryz.func105, Tryz.ntmps105
 go_wp2_with fail
 go_region
 generalize (w.alloc (.cells #[.int .i64 (sl : Int), .int .i64 (nx : Int), .slice none 0 0] 179)).drew = w1 at HK1 HB1 HZ1 ⊢
 have e0 : w1.cell? ⟨w.heap.size, 0, none⟩ = some (.int .i64 (sl : Int)) := (cell_of_block HB1.out 0).trans rfl
 have e1 : w1.cell? ⟨w.heap.size, 1, none⟩ = some (.int .i64 (nx : Int)) := (cell_of_block HB1.out 1).trans rfl
 have e2 : w1.cell? ⟨w.heap.size, 2, none⟩ = some (.slice none 0 0) := (cell_of_block HB1.out 2).trans rfl
 have HA1 := Lib.hid (HA.out.keep (HK1.out.mono fun _ _ _ => trivial))
 have hlay := llay_any w1 (HT.out.keep HK1.out) q p i n HA1.out.head F s (HD.out.keep (HK1.out.mono fun _ _ _ => trivial)) (HAP.out.r q HA.out.mq) HTM.out sl nx 0 (.slice none 0 0) rfl [] (by simp) hi (by omega) (by omega) (by omega) hin2 (by omega)
 rw [show (txt ([] : List UInt8)) = ⟨#[]⟩ from rfl] at hlay
 simp only [Nat.add_zero] at hlay
 have HLAY := Lib.hid hlay
 clear hlay c4 c7
 go_wp2_with fail
 refine HLAY.out.mono ?_
 rintro e w2 ⟨rfl, F2, hd2, hst2⟩
 have HST2 := Lib.hid hst2
 have HD2 := Lib.hid hd2
 have HG1 := Lib.hid (show ∀ b, Fs.all b → b < w1.heap.size from fun b hb => Nat.lt_of_lt_of_le (HA.out.lt b hb) HK1.out.size)
 have HA2 := Lib.hid (HA1.out.keep (hst2.other HAP.out))
 have c0 := HA2.out.head.d
 clear hst2 hd2 HLAY e0 e1 e2
 go_wp2_with fail
 refine (dflush_any w2 p F2 _ HD2.out (show s.calls + 1 ≤ _ by omega)).mono ?_
 rintro e w3 ⟨rfl, F3, hd3, hst3⟩
 have HST := Lib.hid (HST2.out.trans hst3)
 have HD3 := Lib.hid hd3
 have hap2 := HST2.out.apart HAP.out HG1.out
 have HA3 := Lib.hid (HA2.out.keep (hst3.other hap2))
 have HAP3 := Lib.hid (HST.out.apart HAP.out HG1.out)
 have HB3 := Lib.hid ((HST.out.keeps.block w.heap.size (fun hm => by have := HD.out.lt w.heap.size (.inl hm); omega) (by rw [HZ1.out]; omega)).trans HB1.out)
 have e0 : w3.cell? ⟨w.heap.size, 0, none⟩ = some (.int .i64 (sl : Int)) := (cell_of_block HB3.out 0).trans rfl
 have c3 := (cell_of_block HA3.out.blk 3).trans rfl
 have hDEL := delete_any w3 q Fs p i n ks sl left nx tl K T Es HA3.out (by omega) w.heap.size sl e0 (fun e => by have := HA.out.lt w.heap.size (.inl (HA.out.mkk _ e)); omega) full HF.out
 have HDEL := Lib.hid hDEL
 clear hst3 hd3 hap2 hDEL c0
 go_wp2_with fail
 refine HDEL.out.mono ?_
 rintro e w4 ⟨K6, rfl, hko, hr6, hk4⟩
 have HM5 := Lib.hid (HA3.out.mid.cut full hko hr6 hk4)
 have hb4 := HA3.out.blk.keep hk4 (fun e => HA3.out.kq q e rfl)
 have c3 := (cell_of_block hb4 3).trans rfl
 have f3 := unfrozen_of_block hb4 3
 have HB4 := Lib.hid ((hk4.block w.heap.size (fun e => by have := HA.out.lt w.heap.size (.inl (HA.out.mkk _ e)); omega) (World.block_lt_of_cell? w3 _ e0)).trans HB3.out)
 have HK4 := Lib.hid hk4
 have HKO := Lib.hid hko
 obtain ⟨A6, c6, rfl⟩ := own_form hr6
 clear hr6 hk4 hb4 HDEL hko
 go_wp2_with fail
 have hk5 : Keeps (fun b => b ≠ q) w4 (w4.setCell ⟨q, 3, none⟩ (.slice A6 (goes full ks).length c6)) := (Keeps.refl _ w4).setCell (.inr fun hn => hn rfl) _
 generalize w4.setCell ⟨q, 3, none⟩ (.slice A6 (goes full ks).length c6) = w5 at HM5 hk5 ⊢
 have HK5 := Lib.hid hk5
 have hm6 : (goes full ks).length ≤ 200 := by
  cases full
  ·exact hkl
  ·show ks.tail.length ≤ 200; rw [List.length_tail]; omega
 have hb5 := (hk5.block w.heap.size (by show w.heap.size ≠ q; omega) (by rw [← Nat.not_le]; intro hle; have := (Array.getElem?_eq_some_iff.1 HB4.out).1; omega)).trans HB4.out
 have e0 : w5.cell? ⟨w.heap.size, 0, none⟩ = some (.int .i64 (sl : Int)) := (cell_of_block hb5 0).trans rfl
 have e1 : w5.cell? ⟨w.heap.size, 1, none⟩ = some (.int .i64 (nx : Int)) := (cell_of_block hb5 1).trans rfl
 have e2 : w5.cell? ⟨w.heap.size, 2, none⟩ = some (.slice none 0 0) := (cell_of_block hb5 2).trans rfl
 have c3 := (cell_of_block HM5.out.blk 3).trans rfl
 have hq5 : q < w5.heap.size := HM5.out.lt q (.inl rfl)
 have hw5 : w.heap.size < w5.heap.size := (Array.getElem?_eq_some_iff.1 hb5).1
 have h0 : Kp w5 (w5.alloc (.cells #[.int .i64 (sl : Int), .int .i64 (nx : Int), .slice none 0 0] 179)).drew := ((Keeps.refl _ w5).alloc _).drew
 have HOWN := Lib.hid (h0.own HM5.out.row fun _ _ => trivial)
 have HSRC := Lib.hid (src_seg w5 sl nx)
 have H63 := Lib.hid (show (goes full ks).length + 1 ≤ maxLen from by unfold maxLen; omega)
 have hby : ((goes full ks).length + 1) * 40 ≤ 140737488355328 := by omega
 have hbase : 0 ≤ ((w5.alloc (.cells #[.int .i64 (sl : Int), .int .i64 (nx : Int), .slice none 0 0] 179)).drew).heap.size := Nat.zero_le _
 have HH0 := Lib.hid h0
 have HBQ := Lib.hid (show ∀ (w7 : World) (A7 : Option Addr) (c7 : Nat), w7.ownsRow 0 179 3 (.slice A7 ((goes full ks).length + 1) c7) ((goes full ks).length + 1) (segC (goes full ks) (goesE full Es) ++ (⟨sl, nx, []⟩ : Seg).cells (.slice none 0 0)) → (w5.alloc (.cells #[.int .i64 (sl : Int), .int .i64 (nx : Int), .slice none 0 0] 179)).drew.grownBy w7 (Value.slice A6 (goes full ks).length c6).ownBlock →
   w7.heap[q]? = w5.heap[q]? from fun w7 A7 c7 _ g => (g.block q (Nat.lt_of_lt_of_le hq5 HH0.out.size) (fun e => HM5.out.kq q e.symm rfl)).trans (HH0.out.block q trivial hq5))
 clear h0 hb5 hk5 f3
 have hk05 : Keeps (fun b => ¬ F.M b ∧ ¬ Fs.M b) w w5 := by
  have h1 : Keeps (fun b => ¬ F.M b ∧ ¬ Fs.M b) w w3 := (HK1.out.mono fun _ _ _ => trivial).trans (HST.out.keeps.mono fun b _ hb => hb.1)
  have h2 : Keeps (fun b => ¬ F.M b ∧ ¬ Fs.M b) w3 w4 := HK4.out.mono fun b _ hb e => hb.2 (HA.out.mkk b e)
  have h3 : Keeps (fun b => ¬ F.M b ∧ ¬ Fs.M b) w4 w5 := HK5.out.mono fun b _ hb e => hb.2 (by rw [show b = q from e]; exact HA.out.mq)
  exact (h1.trans h2).trans h3
 have HK05 := Lib.hid hk05
 have HDF := Lib.hid (show DAt w5 p F3 ((s.write (i + sl * 8) (encL (nx * 8) [])).flush) from (HD3.out.keep (HK4.out.mono fun b _ hb e => HAP3.out.r b (HA.out.mkk b e) hb)).keep (HK5.out.mono fun b _ hb e => HAP3.out.r q HA.out.mq (by rw [← show b = q from e]; exact hb)))
 have HSS := Lib.hid (show w.heap.size ≤ w5.heap.size from hk05.size)
 clear hk05
 obtain ⟨gm, hgm⟩ : ∃ gm, (goes full ks).length = gm := ⟨_, rfl⟩
 have HGM := Lib.hid hgm
 rw [hgm] at c3 HOWN H63 hby HBQ hm6
 have HM5' := Lib.hid (show LogMid w5 q p i n (goes full ks) sl left nx (.slice A6 gm c6) T (goesE full Es) from by rw [← hgm]; exact HM5.out)
 have hbx : ∀ b, (Value.slice A6 gm c6).ownBlock = some b → Fs.M b := fun b e => HA.out.mkk b (by rw [← HKO.out, hgm]; exact e)
 have HBX := Lib.hid hbx
 rw [hgm]
 clear hgm HM5 hbx
 go_wp2_with fail
 go_region_law (refine seg_elem.step_append rfl (.tmp 42) (.tmp 44) 135 rfl (by simp [Act.eval, Act.put]) HOWN.out (by simp [Act.eval, Act.put]) HSRC.out H63.out hby hbase ?_; intro v7 w7 o7 g7 b7; obtain ⟨A7, c7, hv⟩ := own_form o7; subst hv; have hl7 := (HBQ.out w7 A7 c7 o7 g7).trans HM5'.out.blk; have cc3 := (cell_of_block hl7 3).trans rfl; have ff3 := unfrozen_of_block hl7 3)
 all_goals
  have HM8 := Lib.hid (HM5'.out.put ⟨sl, nx, []⟩ (.slice none 0 0) rfl rfl _ HH0.out (by rw [HGM.out]; exact o7) g7 b7)
  have hk8 : Keeps (fun b => b ≠ q ∧ (Value.slice A6 gm c6).ownBlock ≠ some b) w5 (w7.setCell ⟨q, 3, none⟩ (.slice A7 (gm + 1) c7)) :=
   ((HH0.out.mono fun _ _ _ => trivial).trans (Keeps.of_grown g7 fun b e _ hn => hn.2 e)).setCell (.inr fun hn => hn.1 rfl) _
  have HBB := Lib.hid (show ∀ b, (Value.slice A7 (gm + 1) c7).ownBlock = some b → Fs.M b ∨ w5.heap.size ≤ b from fun b e => by
   rcases b7 with e2 | e2
   ·exact .inl (HBX.out b (by rw [← e2]; exact e))
   ·right
    rw [e2] at e; injection e with e
    have := HH0.out.size; omega)
  have HK8 := Lib.hid hk8
  clear o7 g7 b7 hl7 cc3 ff3 hk8
  generalize w7.setCell ⟨q, 3, none⟩ (.slice A7 (gm + 1) c7) = w8 at HM8 HK8 ⊢
  have hbh := behind_any w8 q p i n HM8.out.blk.head sl (by omega) (by omega) (by omega)
  rw [HR.out] at hbh
  have HBH := Lib.hid hbh
  have e08 := HK8.out.cell e0 ⟨by show w.heap.size ≠ q; omega, fun e => by have := HA.out.lt w.heap.size (.inl (HBX.out _ e)); omega⟩
  have c4 := (cell_of_block HM8.out.blk 4).trans rfl
  have f4 := unfrozen_of_block HM8.out.blk 4
  have c5 := (cell_of_block HM8.out.blk 5).trans rfl
  have f5 := unfrozen_of_block HM8.out.blk 5
  have c6' := (cell_of_block HM8.out.blk 6).trans rfl
  have f6 := unfrozen_of_block HM8.out.blk 6
  have hb11 := block_setCell (block_setCell (block_setCell HM8.out.blk (i := 4) (.int .i64 (r : Int))) (i := 5) (.int .i64 424)) (i := 6) (.slice none 0 0)
  have hk11 : Keeps (fun b => b ≠ q) w8 (((w8.setCell ⟨q, 4, none⟩ (.int .i64 (r : Int))).setCell ⟨q, 5, none⟩ (.int .i64 424)).setCell ⟨q, 6, none⟩ (.slice none 0 0)) := (((Keeps.refl _ w8).setCell (.inr fun hn => hn rfl) _).setCell (.inr fun hn => hn rfl) _).setCell (.inr fun hn => hn rfl) _
  have hM := HM8.out.set (sl' := r) (left' := 424) (nx' := nx) (T' := .slice none 0 0) hb11 hk11
  have HFIN := Lib.hid (show ∃ (F' Fs' : Foot) (K' : Value) (Es' : List Value), DAt (((w8.setCell ⟨q, 4, none⟩ (.int .i64 (r : Int))).setCell ⟨q, 5, none⟩ (.int .i64 424)).setCell ⟨q, 6, none⟩ (.slice none 0 0)) p F' ((s.write (i + sl * 8) (encL (nx * 8) [])).flush) ∧
    LogAt (((w8.setCell ⟨q, 4, none⟩ (.int .i64 (r : Int))).setCell ⟨q, 5, none⟩ (.int .i64 424)).setCell ⟨q, 6, none⟩ (.slice none 0 0)) q Fs' p i n (goes full ks ++ [⟨sl, nx, []⟩]) r 424 nx [] K' (.slice none 0 0) Es' ∧ Went w (((w8.setCell ⟨q, 4, none⟩ (.int .i64 (r : Int))).setCell ⟨q, 5, none⟩ (.int .i64 424)).setCell ⟨q, 6, none⟩ (.slice none 0 0)) F F3 Fs ⟨hasB q (.slice A7 (gm + 1) c7) (goesE full Es ++ [.slice none 0 0]), fun _ => False⟩ ∧ F' = F3 ∧ Fs' = ⟨hasB q (.slice A7 (gm + 1) c7) (goesE full Es ++ [.slice none 0 0]), fun _ => False⟩ from by
   have hFM : ∀ b, hasB q (.slice A7 (gm + 1) c7) (goesE full Es ++ [.slice none 0 0]) b → Fs.M b ∨ w5.heap.size ≤ b := fun b hb => by
    rcases hasB_nil hb with rfl | hb | ⟨E, hE, hb⟩
    ·exact .inl HA.out.mq
    ·exact HBB.out b hb
    ·exact .inl (HA.out.me E (goesE_mem hE) b hb)
   have h35 : ∀ b, F3.all b → b < w5.heap.size := fun b hb => HDF.out.lt b hb
   have hap : Apart F3 ⟨hasB q (.slice A7 (gm + 1) c7) (goesE full Es ++ [.slice none 0 0]), fun _ => False⟩ := ⟨fun b hb hx => by
     rcases hx with hx | hx
     ·rcases hFM b hx with h1 | h1
      ·exact HAP3.out.l b hb (.inl h1)
      ·have := h35 b (.inl hb); omega
     ·exact hx, fun b hb hx => by
     rcases hFM b hb with h1 | h1
     ·exact HAP3.out.r b h1 hx
     ·have := h35 b hx; omega⟩
   have hkk : Keeps (fun b => b ≠ q ∧ (Value.slice A6 gm c6).ownBlock ≠ some b) w5 (((w8.setCell ⟨q, 4, none⟩ (.int .i64 (r : Int))).setCell ⟨q, 5, none⟩ (.int .i64 424)).setCell ⟨q, 6, none⟩ (.slice none 0 0)) := HK8.out.trans (hk11.mono fun b _ hb => hb.1)
   refine ⟨F3, _, _, _, HDF.out.keep (hkk.mono fun b _ hb => ⟨fun e => HAP3.out.r q HA.out.mq (by rw [← e]; exact hb), fun e => HAP3.out.r b (HBX.out b e) hb⟩), hM.at_ (fun _ => False) (fun _ h => h.elim) (fun _ _ h => h) ⟨none, 0, rfl, Nat.le_refl _, Nat.zero_le _, Row.nil _ _ _⟩, ⟨hap, ?_, ?_, ?_, ?_, fun b hb => hb.elim⟩, rfl, rfl⟩
   ·exact HK05.out.trans (hkk.mono fun b _ hb => ⟨fun e => hb.2 (by rw [e]; exact HA.out.mq), fun e => hb.2 (HBX.out b e)⟩)
   ·exact fun b hb => (HST.out.m b hb).imp id fun h1 => by have := HK1.out.size; omega
   ·exact fun b hb => (HST.out.i b hb).imp id fun h1 => by have := HK1.out.size; omega
   ·exact fun b hb => (hFM b hb).imp id fun h1 => by have := HSS.out; omega)
  clear hM hk11 hb11 hbh
  go_wp2_with fail
  refine HBH.out.mono ?_
  rintro e w' ⟨rfl, rfl⟩
  go_wp2_with fail
  go_ret
  obtain ⟨F', Fs', K', Es', h1, h2, h3, rfl, rfl⟩ := HFIN.out
  exact ⟨rfl, _, _, _, _, h1, h2, h3⟩
end Go.Proofs.YticophaepapjoaaGreatDoor
