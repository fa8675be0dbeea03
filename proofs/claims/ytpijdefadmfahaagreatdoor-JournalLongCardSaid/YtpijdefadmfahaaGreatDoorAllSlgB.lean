/- Texts of one proof, behind one another: each says above its part what it proves and on which conditions. -/
import Derived.Test.YtpijdefadmfahaaGreatDoorAllSlgA
import Derived.RegionTactic
import Derived.ChangeAlike
import Derived.BigRegion
import Derived.Test.YtpijdefadmfahaaGreatDoorAllInvs
/-
  THE PROGRAM's LOG: slices.DeleteFunc on its segments: none goes, or the first one.
-/
section
namespace Go.Proofs.YtpijdefadmfahaaGreatDoor
open Go Go.RowKit Go.Joins
theorem same_any (w : World) (b3 a y f : Nat) (E : Value) (_hE : E.oneCell' = true) (hc : w.cell? ⟨b3, 0, none⟩ = some (.int .i64 (y : Int))) (r : Bool) (hr : ((a : Int) == (y : Int)) = r) :
    Calls Tryz.prog 76 #[.agg #[.int .i64 (a : Int), .int .i64 (f : Int), E], .pointer (some ⟨b3, 0, none⟩)] w fun e w' => e = .returned (.bool r) ∧ Kp w w' := by
  have hlt := World.block_lt_of_cell? w _ hc
  simp only at hlt
  have hc2 : ∀ o, (w.alloc o).cell? ⟨b3, 0, none⟩ = some (.int .i64 (y : Int)) := fun o => ((Keeps.refl (fun _ => True) w).alloc o).cell hc trivial
  go_enter Tryz.func76, Tryz.ntmps76
  go_wp2
  go_ret
  exact ⟨rfl, (Keeps.refl _ _).alloc _⟩
section
variable (w : World) (A : Option Addr) (c b3 y : Nat) (G : Nat → Prop) (ks : List Seg)
set_option maxRecDepth 100000 in
set_option maxHeartbeats 1000000 in
theorem index_none (hs : SegsAt w A G ks) (hy : w.cell? ⟨b3, 0, none⟩ = some (.int .i64 (y : Int))) (hl : ks.length ≤ 4096) (hne : ∀ k (h : k < ks.length), (ks[k]).slot ≠ y) :
    Calls Tryz.prog 91 #[.slice A ks.length c, .func (.func 76) #[] #[.pointer (some ⟨b3, 0, none⟩)]] w fun e w' => e = .returned (.int .i64 (-1)) ∧ Kp w w' := by
  have HS := Lib.hid hs
  have HY := Lib.hid hy
  have HN := Lib.hid hne
  clear hs hy hne
  go_enter Tryz.func91, Tryz.ntmps91
  go_wp2_with fail
  go_loopw [8] (fun vk wr => ∃ k : Nat, k ≤ ks.length ∧ vk = .int .i64 k ∧ Kp w wr) (fun vk _ => ks.length - (intOf vk).toNat)
  case atStart => exact ⟨0, Nat.zero_le _, rfl, Keeps.refl _ _⟩
  case round =>
    obtain ⟨k, hk, rfl, hkp⟩ := hrel
    by_cases hlt : k < ks.length
    · obtain ⟨b, o, E, rfl, hbM, d0, d1, d2, hE⟩ := (HS.out.keep (hkp.mono fun _ _ _ => trivial)) k hlt
      obtain ⟨AE, cE, rfl, -⟩ := hE.ex
      have hc := Lib.hid (same_any wr b3 (ks[k]).slot y (ks[k]).first (.slice AE (ks[k]).recs.length cE) rfl (hkp.cell HY.out trivial) false (by have := HN.out k hlt; simp; omega))
      have HK := Lib.hid hkp
      clear hE hkp
      generalize ks[k] = sg at d0 d1 d2 hc
      go_wp2_with fail
      refine hc.out.mono ?_
      rintro e w1 ⟨rfl, hk1⟩
      have HK1 := Lib.hid (HK.out.trans hk1)
      clear hk1
      go_wp2_with fail
      go_roundw
      case rel => exact ⟨k + 1, by omega, by go_num, HK1.out⟩
      case measure => simp [intOf]; omega
    · obtain rfl : k = ks.length := by omega
      have HK := Lib.hid hkp
      clear hkp
      go_wp2_with fail
      go_ret
      exact ⟨rfl, HK.out⟩
set_option maxRecDepth 100000 in
set_option maxHeartbeats 1000000 in
theorem index_zero (hs : SegsAt w A G ks) (hy : w.cell? ⟨b3, 0, none⟩ = some (.int .i64 (y : Int))) (hl : ks.length ≤ 4096) (hp : 0 < ks.length) (he : (ks[0]).slot = y) :
    Calls Tryz.prog 91 #[.slice A ks.length c, .func (.func 76) #[] #[.pointer (some ⟨b3, 0, none⟩)]] w fun e w' => e = .returned (.int .i64 0) ∧ Kp w w' := by
  have HS := Lib.hid hs
  have HY := Lib.hid hy
  have HE := Lib.hid he
  clear hs hy he
  go_enter Tryz.func91, Tryz.ntmps91
  go_wp2_with fail
  go_loopw [8] (fun vk wr => vk = .int .i64 0 ∧ Kp w wr) (fun vk _ => 0)
  case atStart => exact ⟨rfl, Keeps.refl _ _⟩
  case round =>
    obtain ⟨rfl, hkp⟩ := hrel
    obtain ⟨b, o, E, rfl, hbM, d0, d1, d2, hE⟩ := (HS.out.keep (hkp.mono fun _ _ _ => trivial)) 0 hp
    obtain ⟨AE, cE, rfl, -⟩ := hE.ex
    have hc := Lib.hid (same_any wr b3 (ks[0]).slot y (ks[0]).first (.slice AE (ks[0]).recs.length cE) rfl (hkp.cell HY.out trivial) true (by rw [HE.out]; simp))
    have HK := Lib.hid hkp
    simp only [Nat.zero_mul, Nat.add_zero] at d0 d1 d2
    clear hE hkp HE
    generalize ks[0] = sg at d0 d1 d2 hc
    have hp' : (0 : Int) < (ks.length : Int) := by omega
    go_wp2_with fail
    refine hc.out.mono ?_
    rintro e w1 ⟨rfl, hk1⟩
    have HK1 := Lib.hid (HK.out.trans hk1)
    clear hk1
    go_wp2_with fail
    go_ret
    exact ⟨rfl, HK1.out⟩
set_option maxRecDepth 100000 in
set_option maxHeartbeats 1000000 in
theorem delete_none (hs : SegsAt w A G ks) (hy : w.cell? ⟨b3, 0, none⟩ = some (.int .i64 (y : Int))) (hl : ks.length ≤ 4096) (hne : ∀ k (h : k < ks.length), (ks[k]).slot ≠ y) :
    Calls Tryz.prog 75 #[.slice A ks.length c, .func (.func 76) #[] #[.pointer (some ⟨b3, 0, none⟩)]] w fun e w' => e = .returned (.slice A ks.length c) ∧ Kp w w' := by
  have HI := Lib.hid (index_none w A c b3 y G ks hs hy hl hne)
  clear hs hy hne
  go_enter Tryz.func75, Tryz.ntmps75
  go_wp2_with fail
  refine HI.out.mono ?_
  rintro e w1 ⟨rfl, hk1⟩
  have HK1 := Lib.hid hk1
  clear hk1
  go_wp2_with fail
  go_ret
  exact ⟨rfl, HK1.out⟩
end
theorem list_clear {P : Program} {w : World} {ops : Array Oper} {rest : List Oper} {o : Oper} {a : Act} {Q : Exit → Act → World → Prop} {base n c g size : Nat} {e : TypeId} {xs : List Value} (hgd : o.guard = none) (x : Operand) (t : TypeId) (ho : o.op = .call { callee := .builtin .clear, args := #[x], argTypes := #[t] }) (hu : P.underlying t = some (.slice e)) (z : Value) (hz : ∀ w, (zeroValue e).run P w = .ok z w)
    (hown : w.ownsRow base e size (.slice (some ⟨g, 0, none⟩) n c) n xs) (j cc : Nat) (hx : a.eval x = .slice (some ⟨g, j, none⟩) 1 cc) (cs : List Value) (hcs : (Builtin.zeroCells z.cells 1).toList = cs) (hfit : j + cs.length ≤ xs.length) (h1 : ∀ v ∈ cs, v.oneCell' = true)
    (hK : ∀ w', w'.ownsRow base e size (.slice (some ⟨g, 0, none⟩) n c) n (xs.take j ++ cs ++ xs.drop (j + cs.length)) → w.grownBy w' (some g) → wpList P ops Q rest (a.put o.dst (.tuple #[])) w') : wpList P ops Q (o :: rest) a w := by
  obtain ⟨cur, hg, hl, h2, h3⟩ := own_splice hown j cs hfit
  have hst := run_storeCells_at P g j e cs 0 cur w hg (by simpa using hl) h1
  simp only [Nat.add_zero] at hst
  generalize w.setRow g (cur.toList.take j ++ cs ++ cur.toList.drop (j + cs.length)).toArray = w2 at hst h2 h3
  refine wpList_plain hgd fun K hh => ?_
  unfold Oper.wp execOp
  simp [ho, resolve, invoke, builtin, hx, Builtin.clear_, run_underlying hu, hz, hcs, hst, Result.andThen]
  exact hh _ _ (hK _ h2 h3)
def midP (d : List SegP) (i : Nat) : List Value := (encP d.tail).take (i * 3) ++ (encP d).drop (i * 3)
theorem encP_tail (x : SegP) (d : List SegP) : encP (x :: d) = x.enc ++ encP d := rfl
theorem midP_len (d : List SegP) (i : Nat) (h : i + 1 ≤ d.length) : (midP d i).length = d.length * 3 := by
  unfold midP
  rw [List.length_append, List.length_take, List.length_drop, encP_len, encP_len, List.length_tail]
  omega
theorem midP_zero (d : List SegP) : midP d 0 = encP d := by simp [midP]
theorem midP_at (d : List SegP) (i t : Nat) (h : i + 1 < d.length) (ht : t < 3) : (midP d i)[(i + 1) * 3 + t]? = ((d[i + 1]).enc)[t]? := by
  unfold midP
  have hl : ((encP d.tail).take (i * 3)).length = i * 3 := by rw [List.length_take, encP_len, List.length_tail]; omega
  rw [List.getElem?_append_right (by omega), hl, List.getElem?_drop, show i * 3 + ((i + 1) * 3 + t - i * 3) = (i + 1) * 3 + t by omega]
  exact encP_at d (i + 1) h t ht
theorem encP_take (d : List SegP) (i : Nat) (h : i < d.length) : (encP d).take ((i + 1) * 3) = (encP d).take (i * 3) ++ (d[i]).enc := by
  have hl : (d[i]).enc.length = 3 := by simp [SegP.enc, Seg.cells]
  apply List.ext_getElem?
  intro j
  rw [List.getElem?_take]
  by_cases h1 : j < i * 3
  · rw [if_pos (by omega), List.getElem?_append_left (by rw [List.length_take, encP_len]; omega), List.getElem?_take, if_pos h1]
  · rw [List.getElem?_append_right (by rw [List.length_take, encP_len]; omega), List.length_take, encP_len, show min (i * 3) (d.length * 3) = i * 3 by omega]
    by_cases h2 : j < (i + 1) * 3
    · rw [if_pos h2, ← encP_at d i h (j - i * 3) (by omega), show i * 3 + (j - i * 3) = j by omega]
    · rw [if_neg h2, List.getElem?_eq_none (by omega)]
theorem midP_next (d : List SegP) (i : Nat) (h : i + 1 < d.length) : (midP d i).take (i * 3) ++ (d[i + 1]).enc ++ (midP d i).drop (i * 3 + (d[i + 1]).enc.length) = midP d (i + 1) := by
  have hl : ((encP d.tail).take (i * 3)).length = i * 3 := by rw [List.length_take, encP_len, List.length_tail]; omega
  have h3 : (d[i + 1]).enc.length = 3 := by simp [SegP.enc, Seg.cells]
  have ht : d.tail[i]'(by rw [List.length_tail]; omega) = d[i + 1] := by rw [List.getElem_tail]
  have e1 : (midP d i).take (i * 3) = (encP d.tail).take (i * 3) := by unfold midP; rw [List.take_append_of_le_length (by omega), List.take_of_length_le (by omega)]
  have e2 : (midP d i).drop (i * 3 + 3) = (encP d).drop ((i + 1) * 3) := by
    unfold midP
    rw [List.drop_append, List.drop_eq_nil_of_le (by omega), List.nil_append, hl, List.drop_drop]
    congr 1; omega
  rw [h3, e1, e2]
  unfold midP
  rw [encP_take d.tail i (by rw [List.length_tail]; omega), ht]
theorem midP_last (d : List SegP) (i : Nat) (h : i + 1 = d.length) (cs : List Value) (_hcs : cs.length = 3) : ((midP d i).take (i * 3) ++ cs ++ (midP d i).drop (i * 3 + cs.length)).take (i * 3) = encP d.tail := by
  have hl : ((encP d.tail).take (i * 3)).length = i * 3 := by rw [List.length_take, encP_len, List.length_tail]; omega
  have e1 : (midP d i).take (i * 3) = (encP d.tail).take (i * 3) := by unfold midP; rw [List.take_append_of_le_length (by omega), List.take_of_length_le (by omega)]
  rw [e1, List.append_assoc, List.take_append_of_le_length (by omega), List.take_of_length_le (by omega), List.take_of_length_le (by rw [encP_len, List.length_tail]; omega)]
theorem own_shorter {w : World} {base n c g size m : Nat} {e : TypeId} {xs : List Value} (h : w.ownsRow base e size (.slice (some ⟨g, 0, none⟩) n c) n xs) (hm : m ≤ n) : w.ownsRow base e size (.slice (some ⟨g, 0, none⟩) m c) m (xs.take (m * size)) := by
  have hle : m * size ≤ n * size := Nat.mul_le_mul_right _ hm
  refine ⟨by rw [List.length_take, h.1]; omega, ?_⟩
  rcases h.2 with ⟨e0, _⟩ | ⟨g', cap', cur, e0, hb, hg, hn, hcm, hs, ht⟩
  · cases e0
  · injection e0 with e1 _ e3
    injection e1 with e1
    injection e1 with e1
    subst e1; subst e3
    exact .inr ⟨g, c, cur, rfl, hb, hg, by omega, hcm, hs, by rw [← ht, List.take_take, Nat.min_eq_left hle]⟩
set_option maxRecDepth 100000 in
set_option maxHeartbeats 400000 in
theorem delete_first (w : World) (g c b3 y m : Nat) (d : List SegP) (hm : m = d.length) (ho : w.ownsRow 0 78 3 (.slice (some ⟨g, 0, none⟩) m c) m (encP d)) (hs : SegsAt w (some ⟨g, 0, none⟩) (fun _ => True) (d.map Prod.fst)) (hy : w.cell? ⟨b3, 0, none⟩ = some (.int .i64 (y : Int))) (hb3 : b3 ≠ g) (hl : d.length ≤ 4096) (hp : 0 < d.length)
    (he : (d[0]).1.slot = y) (hne : ∀ k (h : k < d.length), 0 < k → (d[k]).1.slot ≠ y) :
    Calls Tryz.prog 75 #[.slice (some ⟨g, 0, none⟩) m c, .func (.func 76) #[] #[.pointer (some ⟨b3, 0, none⟩)]] w fun e w' => e = .returned (.slice (some ⟨g, 0, none⟩) (m - 1) c) ∧
      w'.ownsRow 0 78 3 (.slice (some ⟨g, 0, none⟩) (m - 1) c) (m - 1) (encP d.tail) ∧ Keeps (fun b => b ≠ g) w w' := by
  have hroom := own_room ho
  have hcm := hroom.2
  unfold maxLen at hcm
  have hml : (d.map Prod.fst).length = m := by rw [List.length_map]; exact hm.symm
  have HI := Lib.hid (show Calls Tryz.prog 91 #[.slice (some ⟨g, 0, none⟩) m c, .func (.func 76) #[] #[.pointer (some ⟨b3, 0, none⟩)]] w fun e w' => e = .returned (.int .i64 0) ∧ Kp w w' from by
    have h := index_zero w (some ⟨g, 0, none⟩) c b3 y _ _ hs hy (by rw [List.length_map]; exact hl) (by rw [List.length_map]; exact hp) (by rw [List.getElem_map]; exact he)
    rw [hml] at h
    exact h)
  have HO := Lib.hid ho
  have HY := Lib.hid hy
  have HN := Lib.hid hne
  have HM := Lib.hid hm
  have hgl := (ho.lt g rfl).2
  have hroom1 := hroom.1
  have hmd : m ≤ d.length ∧ d.length ≤ m := by omega
  clear ho hs hy he hne hroom hm hml
  go_enter Tryz.func75, Tryz.ntmps75
  go_wp2_with fail
  refine HI.out.mono ?_
  rintro e w1 ⟨rfl, hk1⟩
  have HK1 := Lib.hid hk1
  clear hk1 HI
  go_wp2_with fail
  go_loopw [5, 6] (fun vi vj wr => ∃ i j : Nat, RowKit.Hid (j = i + 1) ∧ j ≤ m ∧ vi = .int .i64 i ∧ vj = .int .i64 j ∧ wr.ownsRow 0 78 3 (.slice (some ⟨g, 0, none⟩) m c) m (midP d i) ∧ Keeps (fun b => b ≠ g) w wr) (fun _ vj _ => m - (intOf vj).toNat)
  case atStart => exact ⟨0, 1, Lib.hid rfl, by omega, rfl, rfl, by rw [midP_zero]; exact HK1.out.own HO.out fun _ _ => trivial, HK1.out.mono fun _ _ _ => trivial⟩
  case round =>
    obtain ⟨i, j, hji, hj, rfl, rfl, hom, hkp⟩ := hrel
    have hjo := hji.out
    by_cases hlt : j < m
    · have hid : i + 1 < d.length := by omega
      obtain ⟨sg, hsg⟩ : ∃ sg, d[i + 1] = sg := ⟨_, rfl⟩
      have hcell : ∀ t, t < 3 → wr.cell? ⟨g, j * 3 + t, none⟩ = (sg.enc)[t]? := fun t ht => by
        have h1 := midP_at d i t hid ht
        rw [hsg] at h1
        have hv : ∃ v, (sg.enc)[t]? = some v := ⟨_, List.getElem?_eq_getElem (by simp [SegP.enc, Seg.cells]; omega)⟩
        obtain ⟨v, hv⟩ := hv
        rw [hv] at h1 ⊢
        have := hom.cells (g := g) rfl _ v h1
        rw [WideShapes.add_plain, Nat.zero_add] at this
        rw [hjo]
        exact this
      have d0 : wr.cell? ⟨g, j * 3, none⟩ = some (.int .i64 (sg.1.slot : Int)) := (hcell 0 (by omega)).trans rfl
      have d1 : wr.cell? ⟨g, j * 3 + 1, none⟩ = some (.int .i64 (sg.1.first : Int)) := (hcell 1 (by omega)).trans rfl
      have d2 : wr.cell? ⟨g, j * 3 + 2, none⟩ = some sg.E := (hcell 2 (by omega)).trans rfl
      have hns : ((sg.1.slot : Int) == (y : Int)) = false := by
        have := HN.out (i + 1) hid (by omega)
        rw [hsg] at this
        simp; omega
      have HNX := Lib.hid (show (midP d i).take (i * 3) ++ (.int .i64 (sg.1.slot : Int) :: .int .i64 (sg.1.first : Int) :: sg.E :: (midP d i).drop (i * 3 + 3)) = midP d j from by
        have h := midP_next d i hid
        rw [hsg, List.append_assoc] at h
        rw [hjo]; exact h)
      have HML := Lib.hid (midP_len d i (by omega))
      have hc := Lib.hid (fun w' (hk : Kp wr w') => same_any w' b3 sg.1.slot y sg.1.first sg.E rfl (hk.cell (hkp.cell HY.out hb3) trivial) false hns)
      have HOM := Lib.hid hom
      have HK := Lib.hid hkp
      have HJI := Lib.hid hjo
      have hsl3 : sg.enc.length = 3 := rfl
      have hij : i < m := by omega
      obtain ⟨s1, A1, c1⟩ := sg
      simp only [SegP.E] at d2 hc HNX
      clear hcell hom hkp hsg hji hns
      obtain ⟨w0, hw0⟩ : ∃ w0, wr.alloc (.cells #[.int .i64 (s1.slot : Int), .int .i64 (s1.first : Int), .slice A1 s1.recs.length c1] 78) = w0 := ⟨_, rfl⟩
      have hk0 : Kp wr w0 := by rw [← hw0]; exact (Keeps.refl _ wr).alloc _
      have HBX := Lib.hid (show SBox w0 wr.heap.size s1.slot s1.first (.slice A1 s1.recs.length c1) from by rw [← hw0]; exact SBox.new wr s1.slot s1.first _)
      have HW0 := Lib.hid hw0
      have HK0 := Lib.hid hk0
      have HOM0 := Lib.hid (hk0.own HOM.out fun _ _ => trivial)
      clear hw0 hk0 hjo
      go_wp2_with fail
      rw [HW0.out]
      refine (hc.out w0 HK0.out).mono ?_
      rintro e w2 ⟨rfl, hk2⟩
      have hbx := HBX.out.keep hk2 trivial
      have e0 := hbx.s
      have e1 := hbx.f
      have e2 := hbx.e
      have HOM2 := Lib.hid (hk2.own HOM0.out fun _ _ => trivial)
      have HK2 := Lib.hid (HK.out.trans ((HK0.out.trans hk2).mono fun _ _ _ => trivial))
      clear hbx hk2 HOM HOM0 HK HK0 HBX HW0 d0 d1 d2 hc
      go_wp2_with (refine list_store_own rfl 78 (.tmp 33) (.tmp 32) rfl HOM2.out (i * 3) rfl [.int .i64 (s1.slot : Int), .int .i64 (s1.first : Int), .slice A1 s1.recs.length c1] _ rfl rfl (by kernel_rfl) (by rw [HML.out]; simp only [List.length_cons, List.length_nil]; omega) (fun v hv => by
        simp only [List.mem_cons, List.not_mem_nil, or_false] at hv
        rcases hv with rfl | rfl | rfl <;> rfl) ?_)
      intro w3 ho3 hg3
      have H3 := Lib.hid (show w3.ownsRow 0 78 3 (.slice (some ⟨g, 0, none⟩) m c) m (midP d j) from by
        rw [← HNX.out]; exact ho3)
      have HK3 := Lib.hid (HK2.out.trans (keeps_grown hg3))
      clear ho3 hg3 HK2 HOM2 HNX e0 e1 e2
      go_wp2_with fail
      go_roundw
      case rel => exact ⟨i + 1, j + 1, Lib.hid (by have := HJI.out; omega), by omega, by go_num, by go_num, by have e := HJI.out; rw [← e]; exact H3.out, HK3.out⟩
      case measure => simp [intOf]; omega
    · obtain rfl : j = m := by omega
      have hil : i + 1 = d.length := by omega
      have hji2 : j - i = 1 := by omega
      have hij : i ≤ j := by omega
      have hic : i ≤ c := by omega
      have hne : ¬ c = i := by omega
      have HML := Lib.hid (midP_len d i (by omega))
      have HLA := Lib.hid (show ((midP d i).take (i * 3) ++ (Value.int .i64 0 :: Value.int .i64 0 :: Value.slice none 0 0 :: (midP d i).drop (i * 3 + 3))).take (i * 3) = encP d.tail from by
        have h := midP_last d i hil [.int .i64 0, .int .i64 0, .slice none 0 0] rfl
        rw [List.append_assoc] at h
        exact h)
      have HJ := Lib.hid (show i = j - 1 by omega)
      have HOM := Lib.hid hom
      have HK := Lib.hid hkp
      clear hom hkp hji hjo
      go_wp2_with (refine list_clear rfl (.tmp 38) 74 rfl Tryz.underlying74 _ Tryz.zeroValue78 HOM.out (i * 3) (c - i) rfl [.int .i64 0, .int .i64 0, .slice none 0 0] (by kernel_rfl) (by rw [HML.out]; simp only [List.length_cons, List.length_nil]; omega) (fun v hv => by
        simp only [List.mem_cons, List.not_mem_nil, or_false] at hv
        rcases hv with rfl | rfl | rfl <;> rfl) ?_)
      intro w3 ho3 hg3
      have H3 := Lib.hid (show w3.ownsRow 0 78 3 (.slice (some ⟨g, 0, none⟩) i c) i (encP d.tail) from by
        have h := own_shorter ho3 hij
        rw [HLA.out] at h
        exact h)
      have HK3 := Lib.hid (HK.out.trans (keeps_grown hg3))
      clear ho3 hg3 HK HOM
      go_wp2_with fail
      go_ret
      have e := HJ.out
      exact ⟨by rw [← e]; rfl, by rw [← e]; exact H3.out, HK3.out⟩
end Go.Proofs.YtpijdefadmfahaaGreatDoor
end
/-
  THE PROGRAM's LOG: begin: the next segment, in the place of the eldest one.
-/
section
namespace Go.Proofs.YtpijdefadmfahaaGreatDoor
open Go Go.RowKit Go.Joins
def goes (full : Bool) (ks : List Seg) : List Seg := if full then ks.tail else ks
def goesE (full : Bool) (Es : List Value) : List Value := if full then Es.tail else Es
def Turn (full : Bool) (ks : List Seg) (y : Nat) : Prop := if full then 0 < ks.length ∧ (∀ h : 0 < ks.length, (ks[0]).slot = y) ∧ ∀ k (h : k < ks.length), 0 < k → (ks[k]).slot ≠ y else ∀ k (h : k < ks.length), (ks[k]).slot ≠ y
theorem LogAt.pairs {w : World} {q p i n sl left nx : Nat} {F : Foot} {ks : List Seg} {tl : List UInt8} {K T : Value} {Es : List Value} (h : LogAt w q F p i n ks sl left nx tl K T Es) : ∃ d : List SegP, d.map Prod.fst = ks ∧ d.map SegP.E = Es := by
  have hl := h.ends.len
  have hform : ∀ j (hj : j < ks.length), ∃ A c, Es[j]'(by omega) = .slice A (ks[j]).recs.length c := fun j hj => by
    obtain ⟨A, c, e, -, -⟩ := own_slice (h.ends.own j hj)
    exact ⟨A, c, e⟩
  clear h
  induction ks generalizing Es with
  | nil => exact ⟨[], rfl, (List.eq_nil_of_length_eq_zero (by simpa using hl)).symm⟩
  | cons s ks ih =>
    cases Es with
    | nil => cases hl
    | cons E Es =>
      obtain ⟨A, c, e⟩ := hform 0 (by simp)
      obtain ⟨d, h1, h2⟩ := ih (Es := Es) (by simpa using hl) (fun j hj => by
        obtain ⟨A, c, e⟩ := hform (j + 1) (by simpa using hj)
        exact ⟨A, c, by simpa using e⟩)
      refine ⟨(s, (A, c)) :: d, by simp [h1], ?_⟩
      simp only [List.map_cons, h2]
      have : SegP.E (s, (A, c)) = E := by simpa [SegP.E] using e.symm
      rw [this]
theorem SegsAt.any {w : World} {A : Option Addr} {G H : Nat → Prop} {ks : List Seg} (h : SegsAt w A G ks) (hh : ∀ b, G b → H b) : SegsAt w A H ks := fun k hl => by
  obtain ⟨b, o, E, e, hG, c0, c1, c2, hE⟩ := h k hl
  exact ⟨b, o, E, e, hh b hG, c0, c1, c2, hE.mono hh⟩
theorem delete_any (w : World) (q : Nat) (F : Foot) (p i n : Nat) (ks : List Seg) (sl left nx : Nat) (tl : List UInt8) (K T : Value) (Es : List Value) (h : LogAt w q F p i n ks sl left nx tl K T Es) (hl : ks.length ≤ 4096) (b3 y : Nat) (hy : w.cell? ⟨b3, 0, none⟩ = some (.int .i64 (y : Int))) (hb3 : K.ownBlock ≠ some b3) (full : Bool) (hf : Turn full ks y) :
    Calls Tryz.prog 75 #[K, .func (.func 76) #[] #[.pointer (some ⟨b3, 0, none⟩)]] w fun e w' => ∃ K6, e = .returned K6 ∧ K6.ownBlock = K.ownBlock ∧
      w'.ownsRow 0 78 3 K6 (goes full ks).length (segC (goes full ks) (goesE full Es)) ∧ Keeps (fun b => K.ownBlock ≠ some b) w w' := by
  obtain ⟨A, c, e, hlc, hcm, hs⟩ := h.segs
  have hrow := h.row
  subst e
  cases full with
  | false =>
    refine (delete_none w A c b3 y F.M ks hs hy hl hf).mono ?_
    rintro e w' ⟨rfl, hk⟩
    exact ⟨_, rfl, rfl, hk.own hrow fun _ _ => trivial, hk.mono fun _ _ _ => trivial⟩
  | true =>
    obtain ⟨hp, hz, hne⟩ := hf
    obtain ⟨d, h1, h2⟩ := h.pairs
    have hdl : d.length = ks.length := by rw [← h1, List.length_map]
    obtain ⟨g, c', e, -, -⟩ := hrow.form hp
    injection e with e1 _ e3
    subst e1 e3
    rw [← h1, ← h2, segC_encP] at hrow
    have hs' := hs.any (H := fun _ => True) fun _ _ => trivial
    rw [← h1] at hs'
    have hd0 : ∀ k (hk : k < d.length), (d[k]).1 = ks[k]'(by omega) := fun k hk => by
      have : (d.map Prod.fst)[k]'(by simpa using hk) = ks[k]'(by omega) := by simp only [h1]
      rw [← this, List.getElem_map]
    have hm : (d.map Prod.fst).length = d.length := List.length_map ..
    rw [hm] at hrow
    rw [hdl] at hm
    refine (show Calls _ _ _ _ _ from delete_first w g c b3 y ks.length d hdl.symm (by rw [← hdl]; exact hrow) hs' hy (fun e => hb3 (by rw [e]; rfl)) (by omega) (by omega) (by rw [hd0 0 (by omega)]; exact hz (by omega)) (fun k hk h0 => by rw [hd0 k hk]; exact hne k (by omega) h0)).mono ?_
    rintro e w' ⟨rfl, ho, hk⟩
    refine ⟨_, rfl, rfl, ?_, hk.mono fun b _ hb e => hb (by rw [e]; rfl)⟩
    have e1 : goes true ks = d.tail.map Prod.fst := by show ks.tail = _; rw [← h1, List.map_tail]
    have e2 : goesE true Es = d.tail.map SegP.E := by show Es.tail = _; rw [← h2, List.map_tail]
    rw [e1, e2, segC_encP, List.length_map, List.length_tail, hdl]
    exact ho
structure LogMid (w : World) (q p i n : Nat) (ks : List Seg) (sl left nx : Nat) (K T : Value) (Es : List Value) : Prop where
  blk : LBlk w q p i n K sl left T nx
  row : w.ownsRow 0 78 3 K ks.length (segC ks Es)
  ends : EndsOwn w (fun b => b = q ∨ K.ownBlock = some b) ks Es
  kq : ∀ b, K.ownBlock = some b → b ≠ q
def hasB (q : Nat) (K : Value) (Es : List Value) (b : Nat) : Prop := b = q ∨ K.ownBlock = some b ∨ ∃ E ∈ Es, E.ownBlock = some b
section
variable {w w' : World} {q p i n sl left nx : Nat} {F : Foot} {ks : List Seg} {tl : List UInt8} {K T K' : Value} {Es : List Value}
theorem LogAt.mid (h : LogAt w q F p i n ks sl left nx tl K T Es) : LogMid w q p i n ks sl left nx K T Es := ⟨h.blk, h.row, h.ends, h.kq⟩
theorem LogAt.has (h : LogAt w q F p i n ks sl left nx tl K T Es) : ∀ b, hasB q K Es b → F.M b := fun b hb => by
  rcases hb with rfl | hb | ⟨E, hE, hb⟩
  · exact h.mq
  · exact h.mkk b hb
  · exact h.me E hE b hb
theorem LogMid.keep (h : LogMid w q p i n ks sl left nx K T Es) {G : Nat → Prop} (hk : Keeps G w w') (hG : ∀ b, hasB q K Es b → G b) : LogMid w' q p i n ks sl left nx K T Es :=
  ⟨h.blk.keep hk (hG q (.inl rfl)), hk.own h.row fun b hb => hG b (.inr (.inl hb)), h.ends.keep hk fun E hE b hb => hG b (.inr (.inr ⟨E, hE, hb⟩)), h.kq⟩
theorem LogMid.lt (h : LogMid w q p i n ks sl left nx K T Es) : ∀ b, hasB q K Es b → b < w.heap.size := fun b hb => by
  rcases hb with rfl | hb | ⟨E, hE, hb⟩
  · exact (Array.getElem?_eq_some_iff.1 h.blk).1
  · exact (h.row.lt b hb).2
  · obtain ⟨j, hj, rfl⟩ := List.getElem_of_mem hE
    exact ((h.ends.own j (by have := h.ends.len; omega)).lt b hb).2
theorem goesE_mem {full : Bool} {E : Value} (hE : E ∈ goesE full Es) : E ∈ Es := by
  cases full
  · exact hE
  · exact List.mem_of_mem_tail hE
theorem EndsOwn.tail {X : Nat → Prop} (h : EndsOwn w X ks Es) : EndsOwn w X ks.tail Es.tail := by
  cases ks with
  | nil =>
    cases Es with
    | nil => exact h
    | cons E Es => exact absurd h.len (by simp)
  | cons s ks =>
    cases Es with
    | nil => exact absurd h.len (by simp)
    | cons E Es =>
      refine ⟨by simpa using h.len, fun j hj => ?_, fun F hF => h.out F (List.mem_cons_of_mem _ hF), (List.pairwise_cons.1 h.two).2⟩
      have h1 := h.own (j + 1) (by simpa using hj)
      simpa using h1
theorem EndsOwn.goes {X : Nat → Prop} (h : EndsOwn w X ks Es) (full : Bool) : EndsOwn w X (goes full ks) (goesE full Es) := by
  cases full
  · exact h
  · exact h.tail
theorem LogMid.cut (h : LogMid w q p i n ks sl left nx K T Es) (full : Bool) (he : K'.ownBlock = K.ownBlock) (hr : w'.ownsRow 0 78 3 K' (goes full ks).length (segC (goes full ks) (goesE full Es))) (hk : Keeps (fun b => K.ownBlock ≠ some b) w w') :
    LogMid (w'.setCell ⟨q, 3, none⟩ K') q p i n (goes full ks) sl left nx K' T (goesE full Es) := by
  have hb := h.blk.keep hk (fun e => h.kq q e rfl)
  have hs : Keeps (fun b => b ≠ q) w' (w'.setCell ⟨q, 3, none⟩ K') := (Keeps.refl _ w').setCell (.inr fun hn => hn rfl) _
  refine ⟨block_setCell hb (i := 3) K', hs.own hr fun b e => h.kq b (by rw [← he]; exact e), ?_, fun b e => h.kq b (by rw [← he]; exact e)⟩
  have h1 := (h.ends.goes full).keep (hk) fun E hE b e e2 => h.ends.out E (goesE_mem hE) b e (.inr e2)
  have h2 := h1.keep hs fun E hE b e e2 => h.ends.out E (goesE_mem hE) b e (.inl e2)
  exact ⟨h2.len, h2.own, fun E hE b e hx => h.ends.out E (goesE_mem hE) b e (hx.imp id fun e2 => by rw [← he]; exact e2), h2.two⟩
theorem LogMid.put (h : LogMid w q p i n ks sl left nx K T Es) (sg : Seg) (E : Value) (hsg : sg.recs = []) (hE : E = .slice none 0 0) (w0 : World) (h0 : Kp w w0) (hr : w'.ownsRow 0 78 3 K' (ks.length + 1) (segC ks Es ++ sg.cells E)) (hg : w0.grownBy w' K.ownBlock) (hb : K'.ownBlock = K.ownBlock ∨ K'.ownBlock = some w0.heap.size) :
    LogMid (w'.setCell ⟨q, 3, none⟩ K') q p i n (ks ++ [sg]) sl left nx K' T (Es ++ [E]) := by
  subst hE
  have hlt := h.lt
  have hk : Keeps (fun b => K.ownBlock ≠ some b) w w' := (h0.mono fun _ _ _ => trivial).trans (Keeps.of_grown hg fun b e _ hn => hn e)
  have hqs := hlt q (.inl rfl)
  have hz := h0.size
  have hbq : ∀ b, K'.ownBlock = some b → b ≠ q := fun b e => by
    rcases hb with e2 | e2
    · exact h.kq b (by rw [← e2]; exact e)
    · rw [e2] at e; injection e with e; omega
  have hbl := h.blk.keep hk (fun e => h.kq q e rfl)
  have hs : Keeps (fun b => b ≠ q) w' (w'.setCell ⟨q, 3, none⟩ K') := (Keeps.refl _ w').setCell (.inr fun hn => hn rfl) _
  have h1 := h.ends.keep hk fun E hE b e e2 => h.ends.out E hE b e (.inr e2)
  have h2 := h1.keep hs fun E hE b e e2 => h.ends.out E hE b e (.inl e2)
  have hc : segC (ks ++ [sg]) (Es ++ [.slice none 0 0]) = segC ks Es ++ sg.cells (.slice none 0 0) := by rw [segC_append _ _ _ _ h.ends.len]; simp [segC]
  refine ⟨block_setCell hbl (i := 3) K', by rw [List.length_append, hc]; exact hs.own hr hbq, ⟨by simp [h.ends.len], fun j hj => ?_, fun E hE b e hx => ?_, ?_⟩, hbq⟩
  · by_cases hlt : j < ks.length
    · rw [List.getElem_append_left hlt, List.getElem_append_left (by rw [h.ends.len]; exact hlt)]
      exact h2.own j hlt
    · have hj' : j = ks.length := by simp at hj; omega
      subst hj'
      rw [List.getElem_concat_length rfl, List.getElem_concat_length h.ends.len.symm, hsg]
      exact World.ownsRow_nil _ _ _ _
  · rcases List.mem_append.1 hE with hE | hE
    · rcases hx with hx | hx
      · exact h.ends.out E hE b e (.inl hx)
      · rcases hb with e2 | e2
        · exact h.ends.out E hE b e (.inr (by rw [← e2]; exact hx))
        · rw [e2] at hx; injection hx with hx
          have := hlt b (.inr (.inr ⟨E, hE, e⟩))
          omega
    · rw [List.mem_singleton.1 hE] at e; cases e
  · refine List.pairwise_append.2 ⟨h.ends.two, by simp, fun a ha b hb => ?_⟩
    rw [List.mem_singleton.1 hb]
    intro x _ e; cases e
theorem LogMid.set (h : LogMid w q p i n ks sl left nx K T Es) {sl' left' nx' : Nat} {T' : Value} (hb : LBlk w' q p i n K sl' left' T' nx') (hk : Keeps (fun b => b ≠ q) w w') : LogMid w' q p i n ks sl' left' nx' K T' Es :=
  ⟨hb, hk.own h.row h.kq, h.ends.keep hk fun E hE b e e2 => h.ends.out E hE b e (.inl e2), h.kq⟩
theorem LogMid.at_ (h : LogMid w q p i n ks sl left nx K T Es) (I : Nat → Prop) (hI : ∀ b, I b → b < w.heap.size) (hd : ∀ b, hasB q K Es b → ¬ I b) (ht : ∃ A c, T = .slice A tl.length c ∧ tl.length ≤ c ∧ c ≤ maxLen ∧ Row w A I (bcells tl)) : LogAt w q ⟨hasB q K Es, I⟩ p i n ks sl left nx tl K T Es :=
  ⟨h.blk, h.row, h.ends, h.kq, ht, .inl rfl, fun _b e => .inr (.inl e), fun E hE _b e => .inr (.inr ⟨E, hE, e⟩), fun b hb => hb.elim (h.lt b) (hI b), hd⟩
end
end Go.Proofs.YtpijdefadmfahaaGreatDoor
end
/-
  THE PROGRAM's LOG: begin, whole.
-/
section
namespace Go.Proofs.YtpijdefadmfahaaGreatDoor
open Go Go.RowKit Go.Joins
structure Went (w w' : World) (F F' Fs Fs' : Foot) : Prop where
  ap : Apart F' Fs'
  k : Keeps (fun b => ¬ F.M b ∧ ¬ Fs.M b) w w'
  f1 : ∀ b, F'.M b → F.M b ∨ w.heap.size ≤ b
  f2 : ∀ b, F'.I b → F.all b ∨ w.heap.size ≤ b
  f3 : ∀ b, Fs'.M b → Fs.M b ∨ w.heap.size ≤ b
  f4 : ∀ b, Fs'.I b → Fs.all b ∨ w.heap.size ≤ b
theorem hasB_nil {q : Nat} {K : Value} {Es : List Value} {b : Nat} (h : hasB q K (Es ++ [.slice none 0 0]) b) : hasB q K Es b := by
  rcases h with h | h | ⟨E, hE, h⟩
  · exact .inl h
  · exact .inr (.inl h)
  · rcases List.mem_append.1 hE with hE | hE
    · exact .inr (.inr ⟨E, hE, h⟩)
    · rw [List.mem_singleton.1 hE] at h; cases h
theorem own_form {w : World} {base n size : Nat} {e : TypeId} {v : Value} {xs : List Value} (h : w.ownsRow base e size v n xs) : ∃ A c, v = .slice A n c := by
  rcases h.2 with ⟨rfl, h0⟩ | ⟨g, cap, cur, rfl, r⟩
  · exact ⟨none, 0, by rw [h0]⟩
  · exact ⟨_, _, rfl⟩
theorem src_seg (W : World) (sl nx : Nat) : Src Tryz.prog 3 74 (.slice (some ⟨W.heap.size, 0, none⟩) 1 1) 1 ((⟨sl, nx, []⟩ : Seg).cells (.slice none 0 0)) (W.alloc (.cells #[.int .i64 (sl : Int), .int .i64 (nx : Int), .slice none 0 0] 78)).drew :=
  Src.ofSlice _ Tryz.underlying74 ⟨W.heap.size, 0, none⟩ 1 1 _ rfl (fun j v hv => by
    rw [WideShapes.add_plain, Nat.zero_add]
    exact (cell_alloc_mark_at W _ _ _ W.heap.size j rfl).trans (by rw [← hv, ← Array.getElem?_toList]; rfl)) (fun v hv => by
    simp only [Seg.cells, List.mem_cons, List.not_mem_nil, or_false] at hv
    rcases hv with rfl | rfl | rfl <;> rfl)
set_option maxRecDepth 100000 in
set_option maxHeartbeats 1000000 in
theorem begin_any (w : World) (hT : Taken w) (q : Nat) (Fs : Foot) (p i n : Nat) (ks : List Seg) (sl left nx : Nat) (tl : List UInt8) (K T : Value) (Es : List Value) (h : LogAt w q Fs p i n ks sl left nx tl K T Es) (F : Foot) (s : SDev) (hd : DAt w p F s) (ha : Apart F Fs) (hTM : ¬ F.M 0)
    (full : Bool) (hf : Turn full ks sl) (hi : i ≤ 2048) (hn : n ≤ 200) (hsl : sl < n) (hin : i + 8 * n ≤ s.now.length) (hnx : 1 ≤ nx) (hnx2 : nx ≤ 274877906943) (hkl : ks.length ≤ 200) (hcalls : s.calls ≤ 549755813888 + 100) :
    Calls Tryz.prog 55 #[.pointer (some ⟨q, 0, none⟩)] w fun e w' => e = .returned (.int .i64 0) ∧ ∃ (F' Fs' : Foot) (K' : Value) (Es' : List Value), DAt w' p F' ((s.write (i + sl * 8) (encL (nx * 8) [])).flush) ∧
      LogAt w' q Fs' p i n (goes full ks ++ [⟨sl, nx, []⟩]) ((sl + 1) % n) 424 nx [] K' (.slice none 0 0) Es' ∧ Went w w' F F' Fs Fs' := by
  have hsm := hd.ok.small
  have hqlt : q < w.heap.size := h.lt q (.inl h.mq)
  have c4 := (cell_of_block h.blk 4).trans rfl
  have c7 := (cell_of_block h.blk 7).trans rfl
  have HA := Lib.hid h
  have HD := Lib.hid hd
  have HAP := Lib.hid ha
  have HT := Lib.hid hT
  have HTM := Lib.hid hTM
  have HF := Lib.hid hf
  have hin2 : i + sl * 8 < s.now.length := by omega
  have hk1 : Kp w (w.alloc (.cells #[.int .i64 (sl : Int), .int .i64 (nx : Int), .slice none 0 0] 78)).drew := ((Keeps.refl _ w).alloc _).drew
  have hb1 : (w.alloc (.cells #[.int .i64 (sl : Int), .int .i64 (nx : Int), .slice none 0 0] 78)).drew.heap[w.heap.size]? = some (.cells #[.int .i64 (sl : Int), .int .i64 (nx : Int), .slice none 0 0] 78 (0, 0)) := heap_alloc_new w _
  have hz1 : (w.alloc (.cells #[.int .i64 (sl : Int), .int .i64 (nx : Int), .slice none 0 0] 78)).drew.heap.size = w.heap.size + 1 := by simp
  have HK1 := Lib.hid hk1
  have HB1 := Lib.hid hb1
  have HZ1 := Lib.hid hz1
  obtain ⟨r, hr⟩ : ∃ r, (sl + 1) % n = r := ⟨_, rfl⟩
  have HR := Lib.hid hr
  rw [hr]
  clear h hd ha hT hTM hf hk1 hb1 hz1 hin hr
  go_enter Tryz.func55, Tryz.ntmps55
  go_wp2_with fail
  go_region
  generalize (w.alloc (.cells #[.int .i64 (sl : Int), .int .i64 (nx : Int), .slice none 0 0] 78)).drew = w1 at HK1 HB1 HZ1 ⊢
  have e0 : w1.cell? ⟨w.heap.size, 0, none⟩ = some (.int .i64 (sl : Int)) := (cell_of_block HB1.out 0).trans rfl
  have e1 : w1.cell? ⟨w.heap.size, 1, none⟩ = some (.int .i64 (nx : Int)) := (cell_of_block HB1.out 1).trans rfl
  have e2 : w1.cell? ⟨w.heap.size, 2, none⟩ = some (.slice none 0 0) := (cell_of_block HB1.out 2).trans rfl
  have HA1 := Lib.hid (HA.out.keep (HK1.out.mono fun _ _ _ => trivial))
  have hlay := llay_any w1 (HT.out.keep HK1.out) q p i n HA1.out.head F s (HD.out.keep (HK1.out.mono fun _ _ _ => trivial)) (HAP.out.r q HA.out.mq) HTM.out sl nx 0 (.slice none 0 0) rfl [] (by simp) hi (by omega) (by omega) (by omega) hin2 (by omega)
  rw [show (txt ([] : List UInt8)) = ⟨#[]⟩ from rfl] at hlay
  simp only [Nat.add_zero] at hlay
  have HLAY := Lib.hid hlay
  clear hlay c4 c7
  go_wp2_with fail
  refine HLAY.out.mono ?_
  rintro e w2 ⟨rfl, F2, hd2, hst2⟩
  have HST2 := Lib.hid hst2
  have HD2 := Lib.hid hd2
  have HG1 := Lib.hid (show ∀ b, Fs.all b → b < w1.heap.size from fun b hb => Nat.lt_of_lt_of_le (HA.out.lt b hb) HK1.out.size)
  have HA2 := Lib.hid (HA1.out.keep (hst2.other HAP.out))
  have c0 := HA2.out.head.d
  clear hst2 hd2 HLAY e0 e1 e2
  go_wp2_with fail
  refine (dflush_any w2 p F2 _ HD2.out (show s.calls + 1 ≤ _ by omega)).mono ?_
  rintro e w3 ⟨rfl, F3, hd3, hst3⟩
  have HST := Lib.hid (HST2.out.trans hst3)
  have HD3 := Lib.hid hd3
  have hap2 := HST2.out.apart HAP.out HG1.out
  have HA3 := Lib.hid (HA2.out.keep (hst3.other hap2))
  have HAP3 := Lib.hid (HST.out.apart HAP.out HG1.out)
  have HB3 := Lib.hid ((HST.out.keeps.block w.heap.size (fun hm => by have := HD.out.lt w.heap.size (.inl hm); omega) (by rw [HZ1.out]; omega)).trans HB1.out)
  have e0 : w3.cell? ⟨w.heap.size, 0, none⟩ = some (.int .i64 (sl : Int)) := (cell_of_block HB3.out 0).trans rfl
  have c3 := (cell_of_block HA3.out.blk 3).trans rfl
  have hDEL := delete_any w3 q Fs p i n ks sl left nx tl K T Es HA3.out (by omega) w.heap.size sl e0 (fun e => by have := HA.out.lt w.heap.size (.inl (HA.out.mkk _ e)); omega) full HF.out
  have HDEL := Lib.hid hDEL
  clear hst3 hd3 hap2 hDEL c0
  go_wp2_with fail
  refine HDEL.out.mono ?_
  rintro e w4 ⟨K6, rfl, hko, hr6, hk4⟩
  have HM5 := Lib.hid (HA3.out.mid.cut full hko hr6 hk4)
  have hb4 := HA3.out.blk.keep hk4 (fun e => HA3.out.kq q e rfl)
  have c3 := (cell_of_block hb4 3).trans rfl
  have f3 := unfrozen_of_block hb4 3
  have HB4 := Lib.hid ((hk4.block w.heap.size (fun e => by have := HA.out.lt w.heap.size (.inl (HA.out.mkk _ e)); omega) (World.block_lt_of_cell? w3 _ e0)).trans HB3.out)
  have HK4 := Lib.hid hk4
  have HKO := Lib.hid hko
  obtain ⟨A6, c6, rfl⟩ := own_form hr6
  clear hr6 hk4 hb4 HDEL hko
  go_wp2_with fail
  have hk5 : Keeps (fun b => b ≠ q) w4 (w4.setCell ⟨q, 3, none⟩ (.slice A6 (goes full ks).length c6)) := (Keeps.refl _ w4).setCell (.inr fun hn => hn rfl) _
  generalize w4.setCell ⟨q, 3, none⟩ (.slice A6 (goes full ks).length c6) = w5 at HM5 hk5 ⊢
  have HK5 := Lib.hid hk5
  have hm6 : (goes full ks).length ≤ 200 := by
    cases full
    · exact hkl
    · show ks.tail.length ≤ 200; rw [List.length_tail]; omega
  have hb5 := (hk5.block w.heap.size (by show w.heap.size ≠ q; omega) (by rw [← Nat.not_le]; intro hle; have := (Array.getElem?_eq_some_iff.1 HB4.out).1; omega)).trans HB4.out
  have e0 : w5.cell? ⟨w.heap.size, 0, none⟩ = some (.int .i64 (sl : Int)) := (cell_of_block hb5 0).trans rfl
  have e1 : w5.cell? ⟨w.heap.size, 1, none⟩ = some (.int .i64 (nx : Int)) := (cell_of_block hb5 1).trans rfl
  have e2 : w5.cell? ⟨w.heap.size, 2, none⟩ = some (.slice none 0 0) := (cell_of_block hb5 2).trans rfl
  have c3 := (cell_of_block HM5.out.blk 3).trans rfl
  have hq5 : q < w5.heap.size := HM5.out.lt q (.inl rfl)
  have hw5 : w.heap.size < w5.heap.size := (Array.getElem?_eq_some_iff.1 hb5).1
  have h0 : Kp w5 (w5.alloc (.cells #[.int .i64 (sl : Int), .int .i64 (nx : Int), .slice none 0 0] 78)).drew := ((Keeps.refl _ w5).alloc _).drew
  have HOWN := Lib.hid (h0.own HM5.out.row fun _ _ => trivial)
  have HSRC := Lib.hid (src_seg w5 sl nx)
  have H63 := Lib.hid (show (goes full ks).length + 1 ≤ maxLen from by unfold maxLen; omega)
  have hby : ((goes full ks).length + 1) * 40 ≤ 140737488355328 := by omega
  have hbase : 0 ≤ ((w5.alloc (.cells #[.int .i64 (sl : Int), .int .i64 (nx : Int), .slice none 0 0] 78)).drew).heap.size := Nat.zero_le _
  have HH0 := Lib.hid h0
  have HBQ := Lib.hid (show ∀ (w7 : World) (A7 : Option Addr) (c7 : Nat), w7.ownsRow 0 78 3 (.slice A7 ((goes full ks).length + 1) c7) ((goes full ks).length + 1) (segC (goes full ks) (goesE full Es) ++ (⟨sl, nx, []⟩ : Seg).cells (.slice none 0 0)) → (w5.alloc (.cells #[.int .i64 (sl : Int), .int .i64 (nx : Int), .slice none 0 0] 78)).drew.grownBy w7 (Value.slice A6 (goes full ks).length c6).ownBlock →
      w7.heap[q]? = w5.heap[q]? from fun w7 A7 c7 _ g => (g.block q (Nat.lt_of_lt_of_le hq5 HH0.out.size) (fun e => HM5.out.kq q e.symm rfl)).trans (HH0.out.block q trivial hq5))
  clear h0 hb5 hk5 f3
  have hk05 : Keeps (fun b => ¬ F.M b ∧ ¬ Fs.M b) w w5 := by
    have h1 : Keeps (fun b => ¬ F.M b ∧ ¬ Fs.M b) w w3 := (HK1.out.mono fun _ _ _ => trivial).trans (HST.out.keeps.mono fun b _ hb => hb.1)
    have h2 : Keeps (fun b => ¬ F.M b ∧ ¬ Fs.M b) w3 w4 := HK4.out.mono fun b _ hb e => hb.2 (HA.out.mkk b e)
    have h3 : Keeps (fun b => ¬ F.M b ∧ ¬ Fs.M b) w4 w5 := HK5.out.mono fun b _ hb e => hb.2 (by rw [show b = q from e]; exact HA.out.mq)
    exact (h1.trans h2).trans h3
  have HK05 := Lib.hid hk05
  have HDF := Lib.hid (show DAt w5 p F3 ((s.write (i + sl * 8) (encL (nx * 8) [])).flush) from (HD3.out.keep (HK4.out.mono fun b _ hb e => HAP3.out.r b (HA.out.mkk b e) hb)).keep (HK5.out.mono fun b _ hb e => HAP3.out.r q HA.out.mq (by rw [← show b = q from e]; exact hb)))
  have HSS := Lib.hid (show w.heap.size ≤ w5.heap.size from hk05.size)
  clear hk05
  obtain ⟨gm, hgm⟩ : ∃ gm, (goes full ks).length = gm := ⟨_, rfl⟩
  have HGM := Lib.hid hgm
  rw [hgm] at c3 HOWN H63 hby HBQ hm6
  have HM5' := Lib.hid (show LogMid w5 q p i n (goes full ks) sl left nx (.slice A6 gm c6) T (goesE full Es) from by rw [← hgm]; exact HM5.out)
  have hbx : ∀ b, (Value.slice A6 gm c6).ownBlock = some b → Fs.M b := fun b e => HA.out.mkk b (by rw [← HKO.out, hgm]; exact e)
  have HBX := Lib.hid hbx
  rw [hgm]
  clear hgm HM5 hbx
  go_wp2_with fail
  go_region_law (refine seg_elem.step_append rfl (.tmp 42) (.tmp 44) 74 rfl (by simp [Act.eval]) HOWN.out (by simp [Act.eval]) HSRC.out H63.out hby hbase ?_; intro v7 w7 o7 g7 b7; obtain ⟨A7, c7, hv⟩ := own_form o7; subst hv; have hl7 := (HBQ.out w7 A7 c7 o7 g7).trans HM5'.out.blk; have cc3 := (cell_of_block hl7 3).trans rfl; have ff3 := unfrozen_of_block hl7 3)
  all_goals
    have HM8 := Lib.hid (HM5'.out.put ⟨sl, nx, []⟩ (.slice none 0 0) rfl rfl _ HH0.out (by rw [HGM.out]; exact o7) g7 b7)
    have hk8 : Keeps (fun b => b ≠ q ∧ (Value.slice A6 gm c6).ownBlock ≠ some b) w5 (w7.setCell ⟨q, 3, none⟩ (.slice A7 (gm + 1) c7)) :=
      ((HH0.out.mono fun _ _ _ => trivial).trans (Keeps.of_grown g7 fun b e _ hn => hn.2 e)).setCell (.inr fun hn => hn.1 rfl) _
    have HBB := Lib.hid (show ∀ b, (Value.slice A7 (gm + 1) c7).ownBlock = some b → Fs.M b ∨ w5.heap.size ≤ b from fun b e => by
      rcases b7 with e2 | e2
      · exact .inl (HBX.out b (by rw [← e2]; exact e))
      · right
        rw [e2] at e; injection e with e
        have := HH0.out.size; omega)
    have HK8 := Lib.hid hk8
    clear o7 g7 b7 hl7 cc3 ff3 hk8
    generalize w7.setCell ⟨q, 3, none⟩ (.slice A7 (gm + 1) c7) = w8 at HM8 HK8 ⊢
    have hbh := behind_any w8 q p i n HM8.out.blk.head sl (by omega) (by omega) (by omega)
    rw [HR.out] at hbh
    have HBH := Lib.hid hbh
    have e08 := HK8.out.cell e0 ⟨by show w.heap.size ≠ q; omega, fun e => by have := HA.out.lt w.heap.size (.inl (HBX.out _ e)); omega⟩
    have c4 := (cell_of_block HM8.out.blk 4).trans rfl
    have f4 := unfrozen_of_block HM8.out.blk 4
    have c5 := (cell_of_block HM8.out.blk 5).trans rfl
    have f5 := unfrozen_of_block HM8.out.blk 5
    have c6' := (cell_of_block HM8.out.blk 6).trans rfl
    have f6 := unfrozen_of_block HM8.out.blk 6
    have hb11 := block_setCell (block_setCell (block_setCell HM8.out.blk (i := 4) (.int .i64 (r : Int))) (i := 5) (.int .i64 424)) (i := 6) (.slice none 0 0)
    have hk11 : Keeps (fun b => b ≠ q) w8 (((w8.setCell ⟨q, 4, none⟩ (.int .i64 (r : Int))).setCell ⟨q, 5, none⟩ (.int .i64 424)).setCell ⟨q, 6, none⟩ (.slice none 0 0)) := (((Keeps.refl _ w8).setCell (.inr fun hn => hn rfl) _).setCell (.inr fun hn => hn rfl) _).setCell (.inr fun hn => hn rfl) _
    have hM := HM8.out.set (sl' := r) (left' := 424) (nx' := nx) (T' := .slice none 0 0) hb11 hk11
    have HFIN := Lib.hid (show ∃ (F' Fs' : Foot) (K' : Value) (Es' : List Value), DAt (((w8.setCell ⟨q, 4, none⟩ (.int .i64 (r : Int))).setCell ⟨q, 5, none⟩ (.int .i64 424)).setCell ⟨q, 6, none⟩ (.slice none 0 0)) p F' ((s.write (i + sl * 8) (encL (nx * 8) [])).flush) ∧
        LogAt (((w8.setCell ⟨q, 4, none⟩ (.int .i64 (r : Int))).setCell ⟨q, 5, none⟩ (.int .i64 424)).setCell ⟨q, 6, none⟩ (.slice none 0 0)) q Fs' p i n (goes full ks ++ [⟨sl, nx, []⟩]) r 424 nx [] K' (.slice none 0 0) Es' ∧ Went w (((w8.setCell ⟨q, 4, none⟩ (.int .i64 (r : Int))).setCell ⟨q, 5, none⟩ (.int .i64 424)).setCell ⟨q, 6, none⟩ (.slice none 0 0)) F F3 Fs ⟨hasB q (.slice A7 (gm + 1) c7) (goesE full Es ++ [.slice none 0 0]), fun _ => False⟩ ∧ F' = F3 ∧ Fs' = ⟨hasB q (.slice A7 (gm + 1) c7) (goesE full Es ++ [.slice none 0 0]), fun _ => False⟩ from by
      have hFM : ∀ b, hasB q (.slice A7 (gm + 1) c7) (goesE full Es ++ [.slice none 0 0]) b → Fs.M b ∨ w5.heap.size ≤ b := fun b hb => by
        rcases hasB_nil hb with rfl | hb | ⟨E, hE, hb⟩
        · exact .inl HA.out.mq
        · exact HBB.out b hb
        · exact .inl (HA.out.me E (goesE_mem hE) b hb)
      have h35 : ∀ b, F3.all b → b < w5.heap.size := fun b hb => HDF.out.lt b hb
      have hap : Apart F3 ⟨hasB q (.slice A7 (gm + 1) c7) (goesE full Es ++ [.slice none 0 0]), fun _ => False⟩ := ⟨fun b hb hx => by
          rcases hx with hx | hx
          · rcases hFM b hx with h1 | h1
            · exact HAP3.out.l b hb (.inl h1)
            · have := h35 b (.inl hb); omega
          · exact hx, fun b hb hx => by
          rcases hFM b hb with h1 | h1
          · exact HAP3.out.r b h1 hx
          · have := h35 b hx; omega⟩
      have hkk : Keeps (fun b => b ≠ q ∧ (Value.slice A6 gm c6).ownBlock ≠ some b) w5 (((w8.setCell ⟨q, 4, none⟩ (.int .i64 (r : Int))).setCell ⟨q, 5, none⟩ (.int .i64 424)).setCell ⟨q, 6, none⟩ (.slice none 0 0)) := HK8.out.trans (hk11.mono fun b _ hb => hb.1)
      refine ⟨F3, _, _, _, HDF.out.keep (hkk.mono fun b _ hb => ⟨fun e => HAP3.out.r q HA.out.mq (by rw [← e]; exact hb), fun e => HAP3.out.r b (HBX.out b e) hb⟩), hM.at_ (fun _ => False) (fun _ h => h.elim) (fun _ _ h => h) ⟨none, 0, rfl, Nat.le_refl _, Nat.zero_le _, Row.nil _ _ _⟩, ⟨hap, ?_, ?_, ?_, ?_, fun b hb => hb.elim⟩, rfl, rfl⟩
      · exact HK05.out.trans (hkk.mono fun b _ hb => ⟨fun e => hb.2 (by rw [e]; exact HA.out.mq), fun e => hb.2 (HBX.out b e)⟩)
      · exact fun b hb => (HST.out.m b hb).imp id fun h1 => by have := HK1.out.size; omega
      · exact fun b hb => (HST.out.i b hb).imp id fun h1 => by have := HK1.out.size; omega
      · exact fun b hb => (hFM b hb).imp id fun h1 => by have := HSS.out; omega)
    clear hM hk11 hb11 hbh
    go_wp2_with fail
    refine HBH.out.mono ?_
    rintro e w' ⟨rfl, rfl⟩
    go_wp2_with fail
    go_ret
    obtain ⟨F', Fs', K', Es', h1, h2, h3, rfl, rfl⟩ := HFIN.out
    exact ⟨rfl, _, _, _, _, h1, h2, h3⟩
end Go.Proofs.YtpijdefadmfahaaGreatDoor
end
/-
  THE PROGRAM's LOG: extend: single operations of its regions; a pointer's box; what the loop writes.
-/
section
namespace Go.Proofs.YtpijdefadmfahaaGreatDoor
open Go Go.RowKit Go.Joins Go.Shelf
section
variable {w : World} {o : Oper} {a : Act} {Q : Exit → Act → World → Prop} {x y : Operand}
theorem kp_lenK {A : Option Addr} {n c : Nat} (ho : o.op = .call { callee := .builtin .len, args := #[x], argTypes := #[74] }) (hx : a.eval x = .slice A n c) : o.wp Tryz.prog a w (fun a' w' => ∃ v, a' = a.put o.dst v ∧ Kp w w' ∧ IsV (.int .i64 (n : Int)) w' v) Q := by
  refine kp_yield (v := .int .i64 (n : Int)) ?_ (Keeps.refl _ _) rfl
  generalize a.eval = ρ at hx
  unfold execOp
  go_simp
theorem kp_lenB {A : Option Addr} {n c : Nat} (ho : o.op = .call { callee := .builtin .len, args := #[x], argTypes := #[30] }) (hx : a.eval x = .slice A n c) : o.wp Tryz.prog a w (fun a' w' => ∃ v, a' = a.put o.dst v ∧ Kp w w' ∧ IsV (.int .i64 (n : Int)) w' v) Q := by
  refine kp_yield (v := .int .i64 (n : Int)) ?_ (Keeps.refl _ _) rfl
  generalize a.eval = ρ at hx
  unfold execOp
  go_simp
theorem kp_sub1 {m : Nat} (hm : m ≤ 1000000) (ho : o.op = .binOp .sub 3 x (.const (.int .i64 1)) 3) (hx : a.eval x = .int .i64 ((m + 1 : Nat) : Int)) : o.wp Tryz.prog a w (fun a' w' => ∃ v, a' = a.put o.dst v ∧ Kp w w' ∧ IsV (.int .i64 (m : Int)) w' v) Q := by
  refine kp_yield (v := .int .i64 (m : Int)) ?_ (Keeps.refl _ _) rfl
  have hc : a.eval (.const (.int .i64 1)) = .int .i64 1 := rfl
  have e : IntKind.i64.wrap (((m + 1 : Nat) : Int) - 1) = (m : Int) := by rw [IntKind.wrap_i64]; omega
  generalize a.eval = ρ at hx hc
  unfold execOp
  generalize ((m + 1 : Nat) : Int) = z at hx e
  go_simp
theorem kp_subN {m n k : Nat} (hm : m ≤ 1000000) (hn : n ≤ m) (hk : k = m - n) (ho : o.op = .binOp .sub 3 x y 3) (hx : a.eval x = .int .i64 (m : Int)) (hy : a.eval y = .int .i64 (n : Int)) : o.wp Tryz.prog a w (fun a' w' => ∃ v, a' = a.put o.dst v ∧ Kp w w' ∧ IsV (.int .i64 (k : Int)) w' v) Q := by
  refine kp_yield (v := .int .i64 (k : Int)) ?_ (Keeps.refl _ _) rfl
  have e : IntKind.i64.wrap ((m : Int) - (n : Int)) = (k : Int) := by rw [IntKind.wrap_i64]; omega
  clear hk hn hm
  generalize a.eval = ρ at hx hy
  unfold execOp
  go_simp
theorem kp_rem53 {m k : Nat} (hm : m ≤ 1000000) (hk : k = m % 53) (ho : o.op = .binOp .rem 3 x (.const (.int .i64 53)) 3) (hx : a.eval x = .int .i64 (m : Int)) : o.wp Tryz.prog a w (fun a' w' => ∃ v, a' = a.put o.dst v ∧ Kp w w' ∧ IsV (.int .i64 (k : Int)) w' v) Q := by
  refine kp_yield (v := .int .i64 (k : Int)) ?_ (Keeps.refl _ _) rfl
  have hc : a.eval (.const (.int .i64 53)) = .int .i64 53 := rfl
  have e1 : (m : Int).tmod 53 = (k : Int) := by rw [Int.tmod_eq_emod_of_nonneg (by omega)]; omega
  have e : IntKind.i64.wrap (k : Int) = (k : Int) := by rw [IntKind.wrap_i64]; omega
  clear hk
  generalize a.eval = ρ at hx hc
  unfold execOp
  go_simp
theorem kp_addN {m n : Nat} (hm : m + n ≤ 1000000) (ho : o.op = .binOp .add 3 x y 3) (hx : a.eval x = .int .i64 (m : Int)) (hy : a.eval y = .int .i64 (n : Int)) : o.wp Tryz.prog a w (fun a' w' => ∃ v, a' = a.put o.dst v ∧ Kp w w' ∧ IsV (.int .i64 ((m + n : Nat) : Int)) w' v) Q := by
  refine kp_yield (v := .int .i64 ((m + n : Nat) : Int)) ?_ (Keeps.refl _ _) rfl
  have e : IntKind.i64.wrap ((m : Int) + (n : Int)) = ((m + n : Nat) : Int) := by rw [IntKind.wrap_i64]; omega
  clear hm
  generalize ((m + n : Nat) : Int) = z at e ⊢
  generalize a.eval = ρ at hx hy
  unfold execOp
  go_simp
theorem kp_idxK {g n c m : Nat} (hmn : m < n) (ho : o.op = .indexAddr 74 x y) (hx : a.eval x = .slice (some ⟨g, 0, none⟩) n c) (hy : a.eval y = .int .i64 (m : Int)) : o.wp Tryz.prog a w (fun a' w' => ∃ v, a' = a.put o.dst v ∧ Kp w w' ∧ IsV (.pointer (some ⟨g, m * 3, none⟩)) w' v) Q := by
  refine kp_yield (v := .pointer (some ⟨g, m * 3, none⟩)) ?_ (Keeps.refl _ _) rfl
  generalize a.eval = ρ at hx hy
  unfold execOp
  go_simp
theorem kp_allocPG (ho : o.op = .alloc 127) : o.wp Tryz.prog a w (fun a' w' => ∃ v, a' = a.put o.dst v ∧ Kp w w' ∧ (v = .pointer (some ⟨w.heap.size, 0, none⟩) ∧ w' = w.alloc (.cells #[.pointer none] 127))) Q := by
  refine kp_yield (V := fun w' v => v = .pointer (some ⟨w.heap.size, 0, none⟩) ∧ w' = w.alloc (.cells #[.pointer none] 127)) (v := .pointer (some ⟨w.heap.size, 0, none⟩)) (w' := w.alloc (.cells #[.pointer none] 127)) ?_ ((Keeps.refl _ w).alloc _) ⟨rfl, rfl⟩
  unfold execOp
  go_simp
theorem kp_oneI {n : Int} (ho : o.op = .buildSlice 69 1 #[(0, x)]) (hx : a.eval x = .int .i64 n) : o.wp Tryz.prog a w (fun a' w' => ∃ v, a' = a.put o.dst v ∧ Kp w w' ∧ (v = .slice (some ⟨w.heap.size, 0, none⟩) 1 1 ∧ w' = w.alloc (.cells #[.int .i64 n] 3))) Q := by
  refine kp_yield (V := fun w' v => v = .slice (some ⟨w.heap.size, 0, none⟩) 1 1 ∧ w' = w.alloc (.cells #[.int .i64 n] 3)) (v := .slice (some ⟨w.heap.size, 0, none⟩) 1 1) (w' := w.alloc (.cells #[.int .i64 n] 3)) ?_ ((Keeps.refl _ w).alloc _) ⟨rfl, rfl⟩
  generalize a.eval = ρ at hx
  unfold execOp
  go_simp
theorem kp_fG2at {g j : Nat} (ho : o.op = .fieldAddr 78 x 2) (hx : a.eval x = .pointer (some ⟨g, j, none⟩)) : o.wp Tryz.prog a w (fun a' w' => ∃ v, a' = a.put o.dst v ∧ Kp w w' ∧ IsV (.pointer (some ⟨g, j + 2, none⟩)) w' v) Q := by
  refine kp_yield (v := .pointer (some ⟨g, j + 2, none⟩)) ?_ (Keeps.refl _ _) rfl
  generalize a.eval = ρ at hx
  unfold execOp
  go_simp
theorem cells_1 {v : Value} (h : v.oneCell' = true) : v.cells = #[v] := by
  cases v <;> first | rfl | simp [Value.oneCell'] at h
theorem run_store1 {P : Program} (e : TypeId) (hi : (P.info? e).map (·.size) = some 1) (p : Addr) (v u : Value) (hv : v.oneCell' = true) (w : World) (hc : w.cell? p = some u) (hf : w.frozen? p = false) :
    (storeVar e p v).run P w = .ok () (w.setCell p v) := by
  obtain ⟨ie, hie, hs⟩ := Option.map_eq_some_iff.1 hi
  simp [storeVar, cells_1 hv, sizeOf, typeInfo, hie, hs, storeCells, run_store P _ _ v _ hv, Addr.add_zero', hc, hf, Result.andThen]
theorem one_cell {P : Program} (ty : TypeId) (ho : o.op = .store ty x y) (hi : (P.info? ty).map (·.size) = some 1) (p : Addr) (v u : Value) (hv : v.oneCell' = true) (hc : w.cell? p = some u) (hf : w.frozen? p = false) (hx : a.eval x = .pointer (some p)) (hy : a.eval y = v) :
    o.wp P a w (fun a' w' => ∃ v', a' = a.put o.dst v' ∧ w' = w.setCell p v) Q := by
  unfold Oper.wp execOp
  simp only [ho, hx, hy, Instr.storeAt, Instr.sureAddr, Sem.run_bind, Sem.run_pure, Result.andThen_ok, run_store1 ty hi p v u hv w hc hf]
  exact ⟨_, rfl, rfl⟩
end
/-! ### The first region: s := &l.kept[len(l.kept)-1] -/
def IsPB (w : World) (b : Nat) : Prop := ∃ v : Value, w.heap[b]? = some (.cells #[v] 127 (0, 0))
theorem IsPB.kp {w w' : World} {b : Nat} (h : Kp w w') (hi : IsPB w b) : IsPB w' b := by
  obtain ⟨v, hb⟩ := hi
  exact ⟨v, (h.block b trivial (Array.getElem?_eq_some_iff.1 hb).1).trans hb⟩
def PBV (n0 : Nat) : World → Value → Prop := fun w v => ∃ b, v = .pointer (some ⟨b, 0, none⟩) ∧ IsPB w b ∧ n0 ≤ b
def RX (w w' : World) : Prop := ∀ b, IsPB w b → IsPB w' b
def VX (n0 q g m k3 : Nat) : Nat → World → Value → Prop
  | 0 => IsV (.pointer (some ⟨q, 0, none⟩))
  | 1 => IsV (.pointer (some ⟨q, 0, none⟩))
  | 2 => IsV (.pointer (some ⟨q, 3, none⟩))
  | 3 => IsV (.slice (some ⟨g, 0, none⟩) (m + 1) k3)
  | 4 => IsV (.pointer (some ⟨q, 0, none⟩))
  | 5 => IsV (.pointer (some ⟨q, 0, none⟩))
  | 6 => IsV (.pointer (some ⟨q, 3, none⟩))
  | 7 => IsV (.slice (some ⟨g, 0, none⟩) (m + 1) k3)
  | 8 => IsV (.int .i64 ((m + 1 : Nat) : Int))
  | 9 => IsV (.int .i64 (m : Int))
  | 10 => IsV (.pointer (some ⟨g, m * 3, none⟩))
  | 11 => PBV n0
  | _ => fun _ _ => True
theorem VX_any {n0 q g m k3 : Nat} (i : Nat) (w w' : World) (v : Value) (h : ∀ b, IsPB w b → IsPB w' b) (hv : VX n0 q g m k3 i w v) : VX n0 q g m k3 i w' v := by
  match i, hv with
  | 0, hv => exact hv
  | 1, hv => exact hv
  | 2, hv => exact hv
  | 3, hv => exact hv
  | 4, hv => exact hv
  | 5, hv => exact hv
  | 6, hv => exact hv
  | 7, hv => exact hv
  | 8, hv => exact hv
  | 9, hv => exact hv
  | 10, hv => exact hv
  | 11, hv => obtain ⟨b, e, hi, hb⟩ := hv; exact ⟨b, e, h b hi, hb⟩
  | n + 12, _ => trivial
def SX (w0 : World) (pv : Value) : Bool → Value → World → Prop
  | false, _, w => Kp w0 w
  | true, u, w => Kp w0 w ∧ ∃ b, u = .pointer (some ⟨b, 0, none⟩) ∧ w0.heap.size ≤ b ∧ w.heap[b]? = some (.cells #[pv] 127 (0, 0))
theorem SX.kp0 {w0 w : World} {pv : Value} {b : Bool} {u : Value} (h : SX w0 pv b u w) : Kp w0 w := by
  cases b
  · exact h
  · exact h.1
theorem SX.keep {w0 w w' : World} {pv : Value} {b : Bool} {u : Value} (h : SX w0 pv b u w) (hk : Kp w w') : SX w0 pv b u w' := by
  cases b
  · exact h.trans hk
  · obtain ⟨h0, b, e, hb, hc⟩ := h
    exact ⟨h0.trans hk, b, e, hb, (hk.block b trivial (Array.getElem?_eq_some_iff.1 hc).1).trans hc⟩
/-! ### The loop -/
def piece (x : List UInt8) (j : Nat) : List UInt8 := (x.drop (53 * j)).take 53
theorem piece_len (x : List UInt8) (j : Nat) : (piece x j).length = chLen x.length j := by unfold piece chLen; rw [List.length_take, List.length_drop]
theorem piece_row {w : World} {g : Nat} {F : Nat → Prop} {x : List UInt8} (h : Row w (some ⟨g, 0, none⟩) F (bcells x)) (j : Nat) : Row w (some ⟨g, 0 + 53 * j, none⟩) F (bcells (piece x j)) := by
  intro hne
  have hx : bcells x ≠ [] := fun e => hne (by
    have : x = [] := by cases x with
      | nil => rfl
      | cons a l => cases e
    subst this
    simp [piece, bcells])
  obtain ⟨b, o, e, hF, hc⟩ := h hx
  injection e with e
  injection e with e1 e2
  subst e1 e2
  refine ⟨_, _, rfl, hF, fun i v hv => ?_⟩
  have h1 : (bcells x)[53 * j + i]? = some v := by
    unfold bcells piece at hv
    unfold bcells
    rw [List.getElem?_map] at hv ⊢
    rw [List.getElem?_take] at hv
    split at hv
    · rw [List.getElem?_drop] at hv; exact hv
    · cases hv
  have := hc _ v h1
  rw [Nat.zero_add] at this ⊢
  exact this
def putsL (s : SDev) (at_ nu : Nat) (x : List UInt8) (pre : List Nat) : SDev := pre.zipIdx.foldl (fun s yi => s.write (at_ + yi.2) (encL (nu + yi.2) (piece x yi.1))) s
theorem putsL_snoc (s : SDev) (at_ nu : Nat) (x : List UInt8) (pre : List Nat) (y : Nat) : putsL s at_ nu x (pre ++ [y]) = (putsL s at_ nu x pre).write (at_ + pre.length) (encL (nu + pre.length) (piece x y)) := by
  unfold putsL
  rw [List.zipIdx_append, List.foldl_append]
  simp
def SDev.puts (s : SDev) (at_ nu : Nat) (x : List UInt8) : Nat → SDev
  | 0 => s
  | m + 1 => (SDev.puts s at_ nu x m).write (at_ + m) (encL (nu + m) (piece x m))
theorem putsL_range (s : SDev) (at_ nu : Nat) (x : List UInt8) (m : Nat) : putsL s at_ nu x (List.range m) = s.puts at_ nu x m := by
  induction m with
  | zero => rfl
  | succ m ih => rw [List.range_succ, putsL_snoc, ih, List.length_range]; rfl
theorem putsL_len (s : SDev) (at_ nu : Nat) (x : List UInt8) (pre : List Nat) : (putsL s at_ nu x pre).now.length = s.now.length ∧ (putsL s at_ nu x pre).calls = s.calls + pre.length := by
  have : ∀ (pre : List Nat) (k : Nat) (s : SDev), ((pre.zipIdx k).foldl (fun s yi => s.write (at_ + yi.2) (encL (nu + yi.2) (piece x yi.1))) s).now.length = s.now.length ∧ ((pre.zipIdx k).foldl (fun s yi => s.write (at_ + yi.2) (encL (nu + yi.2) (piece x yi.1))) s).calls = s.calls + pre.length := by
    intro pre
    induction pre with
    | nil => intro k s; exact ⟨rfl, rfl⟩
    | cons y pre ih =>
      intro k s
      rw [List.zipIdx_cons, List.foldl_cons]
      obtain ⟨h1, h2⟩ := ih (k + 1) (s.write (at_ + k) (encL (nu + k) (piece x y)))
      have e1 : (s.write (at_ + k) (encL (nu + k) (piece x y))).now.length = s.now.length := by simp [SDev.write]
      have e2 : (s.write (at_ + k) (encL (nu + k) (piece x y))).calls = s.calls + 1 := rfl
      exact ⟨h1.trans e1, by rw [h2, e2, List.length_cons]; omega⟩
  exact this pre 0 s
theorem keeps_on {G H : Nat → Prop} {w W w' : World} (h : Keeps G w W) (hk : Keeps H W w') (hG : ∀ b, b < w.heap.size → G b → H b) : Keeps G w w' :=
  ⟨hk.os.trans h.os, hk.tape.trans h.tape, hk.output.trans h.output, Nat.le_trans h.size hk.size, fun b hb hl => (hk.block b (hG b hl hb) (Nat.lt_of_lt_of_le hl h.size)).trans (h.block b hb hl)⟩
def chV (gx L x : Nat) : Value := .slice (some ⟨gx, 0 + 53 * x, none⟩) (chLen L x) (chLen L x)
def a1 (a : Act) (gx L x : Nat) : Act := { tmps := (a.tmps.setIfInBounds 35 (chV gx L x)).setIfInBounds 8 (chV gx L x), defers := [] }
set_option maxRecDepth 100000 in
theorem chunks_loop {gop : Operand} {assign body : Code} {Q : Exit → Act → World → Prop} {a : Act} {w : World} (Bs Bn gx L cx : Nat) (hg : a.eval gop = .func (.func 93) #[] #[.pointer (some ⟨Bs, 0, none⟩), .pointer (some ⟨Bn, 0, none⟩)]) (hlc : L ≤ cx) (hlm : L ≤ 1000000000000)
    (hBs : w.cell? ⟨Bs, 0, none⟩ = some (.slice (some ⟨gx, 0, none⟩) L cx)) (hBn : w.cell? ⟨Bn, 0, none⟩ = some (.int .i64 53)) (I : List Nat → World → Prop) (hI : OwnFrom w.heap.size I) (h0 : I [] w)
    (hassign : ∀ (l : Nat) (x : Nat) (W : World) (K : Act → World → Prop), K (a1 a gx L x) W →
      assign.wpIn (Fence.wide.inRound l) (6 - 1 - 1) Tryz.prog (Exit.then K (fun _ _ _ => False)) { tmps := a.tmps.setIfInBounds 35 (chV gx L x), defers := [] } W)
    (hbody : ∀ (l : Nat) (pre : List Nat) (x : Nat) (W : World), I pre W → pre.length < chunks L → body.wpIn (Fence.wide.inRound l) (6 - 1 - 1) Tryz.prog (ownPostG w.heap.size (KpB Bs Bn) I (fun _ _ _ => False) (pre ++ [x]) W) (a1 a gx L x) W)
    (hdone : ∀ (D : Nat) (W : World), w.heap.size ≤ D → I (List.range (chunks L)) W → W.heap[D]? = some (.deferred (some [])) → Q .normal { a with defers := { target := .collected D, args := #[] } :: a.defers } W) :
    (Code.rangeFunc gop #[35] assign body).wpIn Fence.wide 6 Tryz.prog Q a w := by
  have l1 := World.block_lt_of_cell? w _ hBs
  have l2 := World.block_lt_of_cell? w _ hBn
  simp only at l1 l2
  have ef : ∀ x, ((#[35] : Array Tmp).zip (encCh gx 0 L x)).foldl (fun t (p, v) => t.setIfInBounds p v) a.tmps = a.tmps.setIfInBounds 35 (chV gx L x) := fun x => by simp [encCh, chV]
  refine wpIn_rangeFunc_ownG rfl (by omega) (gf := 93) (lb := #[.pointer (some ⟨Bs, 0, none⟩), .pointer (some ⟨Bn, 0, none⟩)]) hg trivial (enters_of Tryz.func93 (by kernel_rfl) rfl)
    (chunk_stops Fence.wide 5 trivial rfl (by omega) Bs Bn gx 0 L cx hlc hlm w hBs hBn) (fun h k => h.trans k) (fun W l o o' hl _ _ _ => ?_) (Below.refl _ _) (fun _ => rfl)
    I (fun _ _ _ => False) hI (fun _ _ _ _ _ hs _ _ => hs) h0 (a1 a gx L) (fun l x W K hK => by rw [ef x]; exact hassign l x W K hK) hbody (fun D xs W hD hS hi hdef => ?_) (fun _ _ _ _ _ _ h _ => h.elim)
  · exact (Keeps.of_grown (grownBy_putObj' W l o') fun b hb _ hn => by
      injection hb with hb
      rcases hn with rfl | rfl <;> omega)
  · rw [hS] at hi
    exact hdone D W hD hi hdef
/-! ### A round: l.lay(*s, k, string(text)) -/
def VBy (q g j : Nat) (sv : Value) (k : Nat) (cv : Value) (ct : ByteArray) : Nat → World → Value → Prop
  | 0 => IsV (.pointer (some ⟨q, 0, none⟩))
  | 1 => IsV (.pointer (some ⟨g, j, none⟩))
  | 2 => IsV (.pointer (some ⟨g, j, none⟩))
  | 3 => IsV sv
  | 4 => IsV (.int .i64 (k : Int))
  | 5 => IsV cv
  | 6 => IsV (.string ct)
  | 7 => IsV (.int .i64 0)
  | 8 => IsV (.int .i64 0)
  | _ => fun _ _ => True
theorem VBy_any {q g j : Nat} {sv : Value} {k : Nat} {cv : Value} {ct : ByteArray} (i : Nat) (w w' : World) (v : Value) (hv : VBy q g j sv k cv ct i w v) : VBy q g j sv k cv ct i w' v := by
  match i, hv with
  | 0, hv => exact hv
  | 1, hv => exact hv
  | 2, hv => exact hv
  | 3, hv => exact hv
  | 4, hv => exact hv
  | 5, hv => exact hv
  | 6, hv => exact hv
  | 7, hv => exact hv
  | 8, hv => exact hv
  | n + 9, _ => trivial
def SB (W : World) (p : Nat) (F : Foot) (s s' : SDev) : Bool → World → Prop
  | false, w => DAt w p F s ∧ Kp W w
  | true, w => DAt w p F s' ∧ Keeps (fun b => ¬ F.M b) W w
theorem SB.keep {W w w' : World} {p : Nat} {F : Foot} {s s' : SDev} {b : Bool} (hs : SB W p F s s' b w) (h : Kp w w') : SB W p F s s' b w' := by
  cases b
  · exact ⟨hs.1.keep (h.mono fun _ _ _ => trivial), hs.2.trans h⟩
  · exact ⟨hs.1.keep (h.mono fun _ _ _ => trivial), hs.2.trans (h.mono fun _ _ _ => trivial)⟩
theorem SB.kp {W w : World} {p : Nat} {F : Foot} {s s' : SDev} {b : Bool} (hs : SB W p F s s' b w) : Keeps (fun b => ¬ F.M b) W w := by
  cases b
  · exact hs.2.mono fun _ _ _ => trivial
  · exact hs.2
def noDefer (ops : Array Oper) : Bool := ops.all fun o => match o.op with | .defer _ => false | _ => true
theorem noDefer_is {ops : Array Oper} (h : noDefer ops = true) : ∀ o ∈ ops, ∀ c, o.op ≠ .defer c := fun o ho c e => by
  have := Array.all_eq_true_iff_forall_mem.1 h o ho
  rw [e] at this
  cases this
theorem one_lay {w : World} {o : Oper} {a : Act} {Q : Exit → Act → World → Prop} {X : World → Value → Prop} {f : FuncId} {args : Array Value} {C : Ending → World → Prop} (e : (execOp a.eval o).run Tryz.prog w = .ok (.enter f args) w) (hc : Calls Tryz.prog f args w C)
    (hv : ∀ e' w', C e' w' → ∃ v, e' = .returned v ∧ X w' v) : o.wp Tryz.prog a w (fun a' w' => ∃ v, a' = a.put o.dst v ∧ X w' v) Q := by
  unfold Oper.wp
  rw [e]
  refine hc.mono ?_
  intro e' w' h
  obtain ⟨v, rfl, hx⟩ := hv e' w' h
  exact ⟨v, rfl, hx⟩
end Go.Proofs.YtpijdefadmfahaaGreatDoor
end
/-
  THE PROGRAM's LOG: extend: the log behind it.
-/
section
namespace Go.Proofs.YtpijdefadmfahaaGreatDoor
open Go Go.RowKit Go.Joins Go.Shelf
theorem segC_last (ks : List Seg) (sg sg' : Seg) (Es0 : List Value) (E v : Value) (h : Es0.length = ks.length) (h1 : sg'.slot = sg.slot) (h2 : sg'.first = sg.first) : (segC (ks ++ [sg]) (Es0 ++ [E])).set (ks.length * 3 + 2) v = segC (ks ++ [sg']) (Es0 ++ [v]) := by
  rw [segC_append _ _ _ _ h, segC_append _ _ _ _ h]
  have hl := segC_len ks Es0 h
  rw [List.set_append, if_neg (by omega), hl, Nat.add_sub_cancel_left]
  simp [segC, Seg.cells, h1, h2]
theorem log_extended {W wN W1 wE : World} {q p i n sl left nx g k3 left' : Nat} {F : Foot} {ks : List Seg} {sg : Seg} {tl : List UInt8} {T T' : Value} {Es0 : List Value} {E v : Value} {Z : Nat → Prop} (r : LRec) (hL : LogAt W q F p i n (ks ++ [sg]) sl left nx tl (.slice (some ⟨g, 0, none⟩) (ks.length + 1) k3) T (Es0 ++ [E]))
    (hkN : Keeps (fun b => b ≠ q) W wN) (hbN : LBlk wN q p i n (.slice (some ⟨g, 0, none⟩) (ks.length + 1) k3) sl left' T' nx)
    (hk1 : Keeps (fun b => E.ownBlock ≠ some b) wN W1) (hv : W1.ownsRow 0 3 1 v (sg.recs ++ [r]).length (endsC (sg.recs ++ [r]))) (hvn : v.ownBlock = E.ownBlock ∨ ∃ b, v.ownBlock = some b ∧ wN.heap.size ≤ b)
    (hkE : Keeps (fun b => ¬ Z b) (W1.setCell ⟨g, ks.length * 3 + 2, none⟩ v) wE) (hbr : ∀ b, F.M b → ¬ Z b) (hbr2 : ∀ b, Z b → b < wN.heap.size)
    (I : Nat → Prop) (tl' : List UInt8) (hI : ∀ b, I b → b < wE.heap.size) (hIN : ∀ b, I b → b < wN.heap.size) (hIF : ∀ b, I b → ¬ F.M b) (ht : ∃ A c, T' = .slice A tl'.length c ∧ tl'.length ≤ c ∧ c ≤ maxLen ∧ Row wE A I (bcells tl')) :
    LogAt wE q ⟨hasB q (.slice (some ⟨g, 0, none⟩) (ks.length + 1) k3) (Es0 ++ [v]), I⟩ p i n (ks ++ [⟨sg.slot, sg.first, sg.recs ++ [r]⟩]) sl left' nx tl' (.slice (some ⟨g, 0, none⟩) (ks.length + 1) k3) T' (Es0 ++ [v]) := by
  have hel : Es0.length = ks.length := by have := hL.ends.len; simp at this; exact this
  have hlt := hL.lt
  have hMg : F.M g := hL.mkk g rfl
  have hME : ∀ b, E.ownBlock = some b → F.M b := fun b e => hL.me E (by simp) b e
  have hoE : ∀ b, E.ownBlock = some b → b ≠ q ∧ b ≠ g := fun b e => by
    have := hL.ends.out E (by simp) b e
    exact ⟨fun h => this (.inl h), fun h => this (.inr (by rw [h]; rfl))⟩
  have hgq : g ≠ q := hL.kq g rfl
  have hsN := hkN.size
  have hvg : ∀ b, v.ownBlock = some b → b ≠ g ∧ b ≠ q ∧ ¬ Z b := fun b e => by
    rcases hvn with h | ⟨c, hc, hle⟩
    · rw [h] at e
      exact ⟨(hoE b e).2, (hoE b e).1, hbr b (hME b e)⟩
    · rw [hc] at e; injection e with e
      have h1 := hlt g (.inl hMg)
      have h2 := hlt q (.inl hL.mq)
      exact ⟨by omega, by omega, fun hz => by have := hbr2 b hz; omega⟩
  have hkg : Keeps (fun b => b ≠ g) W1 (W1.setCell ⟨g, ks.length * 3 + 2, none⟩ v) := (Keeps.refl _ W1).setCell (.inr fun hn => hn rfl) _
  have hqlt : q < wN.heap.size := Nat.lt_of_lt_of_le (hlt q (.inl hL.mq)) hsN
  have hall : ∀ b, b < W.heap.size → b ≠ q → E.ownBlock ≠ some b → b ≠ g → ¬ Z b → wE.heap[b]? = W.heap[b]? := fun b h1 h2 h3 h4 h5 =>
    (hkE.block b h5 (by have := hkg.size; have := hk1.size; omega)).trans ((hkg.block b h4 (by have := hk1.size; omega)).trans ((hk1.block b h3 (by omega)).trans (hkN.block b h2 h1)))
  have hmid : LogMid wE q p i n (ks ++ [⟨sg.slot, sg.first, sg.recs ++ [r]⟩]) sl left' nx (.slice (some ⟨g, 0, none⟩) (ks.length + 1) k3) T' (Es0 ++ [v]) := by
    refine ⟨?_, ?_, ⟨?_, ?_, ?_, ?_⟩, hL.kq⟩
    · have e1 := (hk1.block q (fun e => (hoE q e).1 rfl) hqlt).trans hbN
      have e2 := (hkg.block q (Ne.symm hgq) (by have := hk1.size; omega)).trans e1
      exact (hkE.block q (hbr q hL.mq) (by have := hkg.size; have := hk1.size; omega)).trans e2
    · have h0 := hkN.own hL.row fun b hb => hL.kq b hb
      have h1 := hk1.own h0 fun b hb e => (hoE b e).2 (by injection hb with hb; exact hb.symm)
      rw [List.length_append, List.length_singleton] at h1 ⊢
      have h2 := (h1.stored (ks.length * 3 + 2) v).1
      rw [segC_last ks sg ⟨sg.slot, sg.first, sg.recs ++ [r]⟩ Es0 E v hel rfl rfl] at h2
      exact hkE.own h2 fun b hb => by injection hb with hb; rw [← hb]; exact hbr g hMg
    · simp [hel]
    · intro j hj
      by_cases hjm : j < ks.length
      · have e1 : (ks ++ [(⟨sg.slot, sg.first, sg.recs ++ [r]⟩ : Seg)])[j] = ks[j] := List.getElem_append_left hjm
        have e2 : (Es0 ++ [v])[j]'(by simp [hel]; omega) = Es0[j]'(by omega) := List.getElem_append_left (by omega)
        rw [e1, e2]
        have h0 := hL.ends.own j (by simp; omega)
        rw [List.getElem_append_left hjm, List.getElem_append_left (by omega)] at h0
        have hmem : Es0[j]'(by omega) ∈ Es0 ++ [E] := List.mem_append_left _ (List.getElem_mem _)
        have hap : ∀ b, (Es0[j]'(by omega)).ownBlock = some b → E.ownBlock ≠ some b := fun b e e2 => (List.pairwise_append.1 hL.ends.two).2.2 _ (List.getElem_mem _) E (by simp) b e e2
        have hout := fun b e => hL.ends.out _ hmem b e
        have hk : Keeps (fun b => b ≠ q ∧ E.ownBlock ≠ some b ∧ b ≠ g ∧ ¬ Z b) W wE := keeps_on (keeps_on (keeps_on (hkN.mono fun _ _ hb => hb.1) hk1 fun _ _ hb => hb.2.1) hkg fun _ _ hb => hb.2.2.1) hkE fun _ _ hb => hb.2.2.2
        exact hk.own h0 fun b e => ⟨fun e' => hout b e (.inl e'), hap b e, fun e' => hout b e (.inr (by rw [e']; rfl)), hbr b (hL.me _ hmem b e)⟩
      · have hj' : j = ks.length := by simp at hj; omega
        subst hj'
        rw [List.getElem_concat_length rfl, List.getElem_concat_length hel.symm]
        exact hkE.own (hkg.own hv fun b e => (hvg b e).1) fun b e => (hvg b e).2.2
    · intro X hX b e hx
      rcases List.mem_append.1 hX with hX | hX
      · exact hL.ends.out X (List.mem_append_left _ hX) b e hx
      · rw [List.mem_singleton.1 hX] at e
        have := hvg b e
        rcases hx with hx | hx
        · exact this.2.1 hx
        · injection hx with hx; exact this.1 hx.symm
    · have h2 := List.pairwise_append.1 hL.ends.two
      refine List.pairwise_append.2 ⟨h2.1, by simp, fun a ha b hb => ?_⟩
      rw [List.mem_singleton.1 hb]
      intro y e1 e2
      rcases hvn with h | ⟨c, hc, hle⟩
      · exact h2.2.2 a ha E (by simp) y e1 (by rw [← h]; exact e2)
      · rw [hc] at e2; injection e2 with e2
        have := hlt y (.inl (hL.me a (List.mem_append_left _ ha) y e1))
        omega
  refine hmid.at_ I hI (fun b hb hi => ?_) ht
  rcases hb with rfl | hb | ⟨X, hX, hb⟩
  · exact hIF _ hi hL.mq
  · exact hIF b hi (hL.mkk b hb)
  · rcases List.mem_append.1 hX with hX | hX
    · exact hIF b hi (hL.me X (List.mem_append_left _ hX) b hb)
    · rw [List.mem_singleton.1 hX] at hb
      rcases hvn with h | ⟨c, hc, hle⟩
      · exact hIF b hi (hME b (by rw [← h]; exact hb))
      · rw [hc] at hb; injection hb with hb
        have := hIN b hi
        omega
end Go.Proofs.YtpijdefadmfahaaGreatDoor
end
/-
  THE PROGRAM's LOG: extend: its two regions behind the loop.
-/
section
namespace Go.Proofs.YtpijdefadmfahaaGreatDoor
open Go Go.RowKit Go.Joins Go.Shelf
/-! ### l.tail = texts[len(texts)-len(texts)%room:] -/
def cutV (gx L cx z : Nat) : Value := .slice (if cx = z then some ⟨gx, 0, none⟩ else some ⟨gx, z, none⟩) (L - z) (cx - z)
theorem cutV_one (gx L cx z : Nat) : (cutV gx L cx z).oneCell' = true := rfl
set_option maxRecDepth 100000 in
theorem kp_cutT {w : World} {o : Oper} {a : Act} {Q : Exit → Act → World → Prop} {x y : Operand} {gx L cx z : Nat} (hz : z ≤ L) (hl : L ≤ cx) (_hc : cx ≤ maxLen) (ho : o.op = .slice 30 x (some y) none none) (hx : a.eval x = .slice (some ⟨gx, 0, none⟩) L cx) (hy : a.eval y = .int .i64 (z : Int)) :
    o.wp Tryz.prog a w (fun a' w' => ∃ v, a' = a.put o.dst v ∧ Kp w w' ∧ IsV (cutV gx L cx z) w' v) Q := by
  refine kp_yield (v := cutV gx L cx z) ?_ (Keeps.refl _ _) rfl
  unfold maxLen at _hc
  have h1 : z ≤ cx := by omega
  generalize a.eval = ρ at hx hy
  unfold execOp cutV
  by_cases h : cx = z
  · have h2 : L = z := by omega
    subst h2
    subst h
    go_simp
  · go_simp
def VT (q gx L cx z r : Nat) : Nat → World → Value → Prop
  | 0 => IsV (.pointer (some ⟨q, 0, none⟩))
  | 1 => IsV (.slice (some ⟨gx, 0, none⟩) L cx)
  | 2 => IsV (.slice (some ⟨gx, 0, none⟩) L cx)
  | 3 => IsV (.int .i64 (L : Int))
  | 4 => IsV (.slice (some ⟨gx, 0, none⟩) L cx)
  | 5 => IsV (.int .i64 (L : Int))
  | 6 => IsV (.int .i64 (r : Int))
  | 7 => IsV (.int .i64 (z : Int))
  | 8 => IsV (cutV gx L cx z)
  | 9 => IsV (.pointer (some ⟨q, 0, none⟩))
  | 10 => IsV (.pointer (some ⟨q, 6, none⟩))
  | _ => fun _ _ => True
theorem VT_any {q gx L cx z r : Nat} (i : Nat) (w w' : World) (v : Value) (hv : VT q gx L cx z r i w v) : VT q gx L cx z r i w' v := by
  match i, hv with
  | 0, hv => exact hv
  | 1, hv => exact hv
  | 2, hv => exact hv
  | 3, hv => exact hv
  | 4, hv => exact hv
  | 5, hv => exact hv
  | 6, hv => exact hv
  | 7, hv => exact hv
  | 8, hv => exact hv
  | 9, hv => exact hv
  | 10, hv => exact hv
  | n + 11, _ => trivial
def ST (W : World) (q : Nat) (T : Value) : Bool → World → Prop
  | false, w => Kp W w
  | true, w => ∃ W1, Kp W W1 ∧ Kp (W1.setCell ⟨q, 6, none⟩ T) w
theorem ST.keep {W w w' : World} {q : Nat} {T : Value} {b : Bool} (hs : ST W q T b w) (h : Kp w w') : ST W q T b w' := by
  cases b
  · exact hs.trans h
  · obtain ⟨W1, h1, h2⟩ := hs
    exact ⟨W1, h1, h2.trans h⟩
theorem ST.kp {W w : World} {q : Nat} {T : Value} {b : Bool} (hs : ST W q T b w) : Keeps (fun b => b ≠ q) W w := by
  cases b
  · exact hs.mono fun _ _ _ => trivial
  · obtain ⟨W1, h1, h2⟩ := hs
    exact ((h1.mono fun _ _ _ => trivial).setCell (.inr fun hn => hn rfl) _).trans (h2.mono fun _ _ _ => trivial)
/-! ### s.ends = append(s.ends, s.end()+len(record)) -/
def LitV (E : Value) (g : Nat) (n : Int) : World → Value → Prop := fun w v => ∃ B, v = .slice (some ⟨B, 0, none⟩) 1 1 ∧ E.ownBlock ≠ some B ∧ B ≠ g ∧ Row w (some ⟨B, 0, none⟩) (fun b => b = B) [.int .i64 n]
def AppV (n0 g : Nat) (E : Value) (rs : List LRec) : World → Value → Prop := fun w v => w.ownsRow 0 3 1 v rs.length (endsC rs) ∧ (v.ownBlock = E.ownBlock ∨ ∃ b, v.ownBlock = some b ∧ n0 ≤ b) ∧ v.ownBlock ≠ some g
def VW (n0 g j : Nat) (sv E rv : Value) (en N : Nat) (rs : List LRec) : Nat → World → Value → Prop
  | 0 => IsV (.pointer (some ⟨g, j, none⟩))
  | 1 => IsV (.pointer (some ⟨g, j, none⟩))
  | 2 => IsV (.pointer (some ⟨g, j, none⟩))
  | 3 => IsV (.pointer (some ⟨g, j + 2, none⟩))
  | 4 => IsV E
  | 5 => IsV (.pointer (some ⟨g, j, none⟩))
  | 6 => IsV (.pointer (some ⟨g, j, none⟩))
  | 7 => IsV sv
  | 8 => IsV (.int .i64 (en : Int))
  | 9 => IsV rv
  | 10 => IsV (.int .i64 (N : Int))
  | 11 => IsV (.int .i64 ((en + N : Nat) : Int))
  | 12 => LitV E g ((en + N : Nat) : Int)
  | 13 => AppV n0 g E rs
  | 14 => IsV (.pointer (some ⟨g, j, none⟩))
  | 15 => IsV (.pointer (some ⟨g, j + 2, none⟩))
  | _ => fun _ _ => True
theorem VW_k {n0 g j : Nat} {sv E rv : Value} {en N : Nat} {rs : List LRec} (G : Nat → Prop) (i : Nat) (hl : i = 12 → ∀ B, E.ownBlock ≠ some B → B ≠ g → G B) (ha : i = 13 → ∀ b, b ≠ g → G b) (w w' : World) (v : Value) (h : Keeps G w w') (hv : VW n0 g j sv E rv en N rs i w v) : VW n0 g j sv E rv en N rs i w' v := by
  match i, hv with
  | 0, hv => exact hv
  | 1, hv => exact hv
  | 2, hv => exact hv
  | 3, hv => exact hv
  | 4, hv => exact hv
  | 5, hv => exact hv
  | 6, hv => exact hv
  | 7, hv => exact hv
  | 8, hv => exact hv
  | 9, hv => exact hv
  | 10, hv => exact hv
  | 11, hv => exact hv
  | 12, hv =>
    obtain ⟨B, e, h1, h2, hr⟩ := hv
    exact ⟨B, e, h1, h2, hr.keep (h.mono fun b _ hb => by rw [show b = B from hb]; exact hl rfl B h1 h2)⟩
  | 13, hv => exact ⟨h.own hv.1 fun b hb => ha rfl b fun e => hv.2.2 (by rw [hb, e]), hv.2⟩
  | 14, hv => exact hv
  | 15, hv => exact hv
  | n + 16, _ => trivial
def SW (wN : World) (g j : Nat) (E : Value) (rs : List LRec) : Bool → Bool → World → Prop
  | false, false, w => Kp wN w
  | true, false, w => Keeps (fun b => E.ownBlock ≠ some b) wN w
  | true, true, w => ∃ W1 v, Keeps (fun b => E.ownBlock ≠ some b) wN W1 ∧ AppV wN.heap.size g E rs W1 v ∧ Kp (W1.setCell ⟨g, j + 2, none⟩ v) w
  | false, true, _ => False
theorem SW.keep {wN w w' : World} {g j : Nat} {E : Value} {rs : List LRec} {b c : Bool} (hs : SW wN g j E rs b c w) (h : Kp w w') : SW wN g j E rs b c w' := by
  cases b <;> cases c
  · exact hs.trans h
  · exact hs
  · exact hs.trans (h.mono fun _ _ _ => trivial)
  · obtain ⟨W1, v, h1, h2, h3⟩ := hs
    exact ⟨W1, v, h1, h2, h3.trans h⟩
theorem SW.kp {wN w : World} {g j : Nat} {E : Value} {rs : List LRec} {b c : Bool} (hs : SW wN g j E rs b c w) : Keeps (fun b => E.ownBlock ≠ some b ∧ b ≠ g) wN w := by
  cases b <;> cases c
  · exact hs.mono fun _ _ _ => trivial
  · exact hs.elim
  · exact hs.mono fun _ _ hb => hb.1
  · obtain ⟨W1, v, h1, h2, h3⟩ := hs
    have hk : Keeps (fun b => b ≠ g) W1 (W1.setCell ⟨g, j + 2, none⟩ v) := (Keeps.refl _ W1).setCell (.inr fun hn => hn rfl) _
    exact keeps_on (keeps_on (h1.mono fun _ _ hb => hb.1) hk fun _ _ hb => hb.2) h3 fun _ _ _ => trivial
theorem SW.kp0 {wN w : World} {g j : Nat} {E : Value} {rs : List LRec} {c : Bool} (hs : SW wN g j E rs false c w) : Kp wN w := by
  cases c
  · exact hs
  · exact hs.elim
end Go.Proofs.YtpijdefadmfahaaGreatDoor
end
