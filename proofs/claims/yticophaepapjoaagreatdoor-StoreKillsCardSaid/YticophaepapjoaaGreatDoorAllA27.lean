/-
  SlgReads: texts of mine, joined.
-/
import Derived.Test.YticophaepapjoaaGreatDoorAllA26
namespace Go.Proofs.YticophaepapjoaaGreatDoor
open Go Go.RowKit Go.Joins
structure Good (rows : List (List UInt8)) (i n : Nat) (s : Seg) : Prop where
 ok : s.Ok
 on : SegOn rows i s
 slot : s.slot < n
 full : s.recs ≠ []
 first : s.first ≤ 274877906943
def VN (b f n : Nat) (u E : Value) : Nat → World → Value → Prop
 | 0 => IsV (.pointer (some ⟨b, 1, none⟩))
 | 1 => IsV (.int .i64 (f : Int))
 | 2 => IsV (.agg #[u, .int .i64 (f : Int), E])
 | 3 => IsV (.int .i64 (n : Int))
 | 4 => IsV (.int .i64 ((f : Int) + (n : Int)))
 | 5 => IsV (.int .i64 ((f : Int) + (n : Int)))
 | _ => fun _ _ => True
theorem VN_any {b f n : Nat} {u E : Value} (i : Nat) (w w' : World) (x : Value) (hv : VN b f n u E i w x) : VN b f n u E i w' x := by
 match i, hv with
 | 0, hv => exact hv
 | 1, hv => exact hv
 | 2, hv => exact hv
 | 3, hv => exact hv
 | 4, hv => exact hv
 | 5, hv => exact hv
 | n + 6, _ => trivial
set_option maxRecDepth 100000 in
set_option maxHeartbeats 1000000 in
theorem snext_any (w : World) (sl f : Nat) (A : Option Addr) (n c : Nat) (hf : f ≤ 274877906944) (hn : n ≤ 4096) :
  Calls Tryz.prog 118 #[.agg #[.int .i64 (sl : Int), .int .i64 (f : Int), .slice A n c]] w fun e w' => e = .returned (.int .i64 ((f : Int) + (n : Int))) ∧ Kp w w' := by
 have HB0 := Lib.hid (SBox.new w sl f (.slice A n c))
 have HK0 := Lib.hid (show Kp w (w.alloc (.cells #[.int .i64 (sl : Int), .int .i64 (f : Int), .slice A n c] 179)) from (Keeps.refl _ w).alloc _)
 go_enter Tryz.func118, Tryz.ntmps118
 go_wp2_with fail
 obtain ⟨w0, hw0⟩ : ∃ w0, w.alloc (.cells #[.int .i64 (sl : Int), .int .i64 (f : Int), .slice A n c] 179) = w0 := ⟨_, rfl⟩
 rw [hw0]
 rw [hw0] at HK0 HB0
 clear hw0
 refine wp_region_guard (R := Kp) (V := VN w.heap.size f n (.int .i64 (sl : Int)) (.slice A n c)) (w0 := w0) GE (by kernel_rfl) (fun w => Keeps.refl _ w) (fun _ _ _ h k => h.trans k) (fun i w w' v _ hv => VN_any i w w' v hv) (by kernel_rfl) GE_is (fun i o ho hw => (all_wanted (by kernel_rfl) ho hw).elim) ((Keeps.refl _ w0).drew) (each_of ?_) ?_
 ·refine ⟨?_, ?_, ?_, ?_, ?_, ?_, trivial⟩ <;> intro hw a1 w3 L
  ·exact kp_fG1 rfl (L.old 1 (by kernel_rfl))
  ·exact kp_lI64 (HB0.out.keep L.rel trivial).f rfl (L.val 0 3 (by kernel_rfl) (by kernel_rfl))
  ·have hb := HB0.out.keep L.rel trivial
   exact kp_lG hb.s hb.f hb.e rfl (L.old 1 (by kernel_rfl))
  ·have e0 : a1.eval (.tmp 5) = .agg #[.int .i64 (sl : Int), .int .i64 (f : Int), .slice A n c] := L.val 2 5 (by kernel_rfl) (by kernel_rfl)
   have hf : a1.eval (.func 148) = .func (.func 148) #[] #[] := rfl
   refine kp_enter (f := 148) (args := #[.agg #[.int .i64 (sl : Int), .int .i64 (f : Int), .slice A n c]]) ?_ (count_any w3 _ _ A n c rfl rfl) ?_
   ·clear L
    generalize a1.eval = ρ at e0 hf ⊢
    unfold execOp
    go_simp
   ·rintro e w' ⟨rfl, hk⟩
    exact ⟨_, rfl, hk, rfl⟩
  ·have e0 : a1.eval (.tmp 4) = .int .i64 (f : Int) := L.val 1 4 (by kernel_rfl) (by kernel_rfl)
   have e1 : a1.eval (.tmp 6) = .int .i64 (n : Int) := L.val 3 6 (by kernel_rfl) (by kernel_rfl)
   have hw1 : IntKind.i64.wrap ((f : Int) + (n : Int)) = (f : Int) + (n : Int) := by rw [IntKind.wrap_i64]; omega
   refine kp_yield (v := .int .i64 ((f : Int) + (n : Int))) (w' := w3) ?_ (Keeps.refl _ _) rfl
   clear L
   generalize a1.eval = ρ at e0 e1 ⊢
   unfold execOp
   go_simp
  ·exact kp_assign rfl (L.val 4 7 (by kernel_rfl) (by kernel_rfl))
 ·intro vs w4 hk4 hlen4 hv
  match vs, hlen4 with
  | [v0, v1, v2, v3, v4, v5], _ =>
   have e5 : v5 = .int .i64 ((f : Int) + (n : Int)) := hv 5 2 (by kernel_rfl)
   clear hv
   subst e5
   simp only [putAll, List.map, Act.put, List.setIfInBounds_toArray, List.set_cons_succ, List.set_cons_zero, Exit.then]
   have HK4 := Lib.hid (HK0.out.trans hk4)
   clear hk4
   go_wp2_with fail
   go_ret
   exact ⟨rfl, HK4.out⟩
theorem src_recs (W : World) (base g c m : Nat) (ps : List (Nat × List UInt8)) (vs : List Value) (hm : m = ps.length) (h : vs.length = ps.length) (hv : ∀ v ∈ vs, v.oneCell' = true) (ho : W.ownsRow base 172 2 (.slice (some ⟨g, 0, none⟩) m c) m (recC ps vs)) :
  Src Tryz.prog 2 169 (.slice (some ⟨g, 0, none⟩) m c) m (recC ps vs) W :=
 Src.ofSlice _ Tryz.underlying169 ⟨g, 0, none⟩ m c (recC ps vs) (by rw [recC_len _ _ h, hm]) (fun j v hj => ho.cells (g := g) rfl j v hj) (recC_one _ _ hv)
theorem flat_take (ks : List Seg) (k : Nat) (h : k < ks.length) : ((ks.take (k + 1)).flatMap Seg.recs).map LRec.key = ((ks.take k).flatMap Seg.recs).map LRec.key ++ ((ks[k]).recs).map LRec.key := by
 rw [take_next _ _ h, List.flatMap_append, List.map_append, List.flatMap_cons, List.flatMap_nil, List.append_nil]
set_option maxRecDepth 100000 in
set_option maxHeartbeats 2000000 in
theorem lall_any (w : World) (hT : Taken w) (q : Nat) (Fs : Foot) (p i n : Nat) (ks : List Seg) (sl left nx : Nat) (tl : List UInt8) (K T : Value) (Es : List Value) (h : LogAt w q Fs p i n ks sl left nx tl K T Es) (F : Foot) (s : SDev) (hd : DAt w p F s)
  (hg : ∀ sg ∈ ks, Good s.now i n sg) (hn : n ≤ 200) (hin : i + 8 * n ≤ s.now.length) (hkn : ks.length ≤ n) :
  Calls Tryz.prog 97 #[.pointer (some ⟨q, 0, none⟩)] w fun e w' => ∃ v, e = .returned v ∧ RecRow w' w.heap.size v ((ks.flatMap Seg.recs).map LRec.key) ∧ Kp w w' := by
 have hsm := hd.ok.small
 have HDN := Lib.hid (down_no w q p i n h.head)
 have HBD := Lib.hid (fun (w' : World) (hk : Kp w w') (sg : Seg) (E : Value) (hm : sg ∈ ks) (hE : SegV w' Fs.M sg E) => bodies_any w' (hT.keep hk) q p i n (h.head.keep hk trivial) F s (hd.keep (hk.mono fun _ _ _ => trivial)) sg E Fs.M hE (hg sg hm).ok (hg sg hm).full (hg sg hm).on (by omega) (by have := (hg sg hm).slot; omega) (hg sg hm).first (by have := (hg sg hm).slot; omega))
 have HCN := Lib.hid (fun (k : Nat) (hk : k ≤ ks.length) => (show (((ks.take k).flatMap Seg.recs).map LRec.key).length ≤ 212 * k from by
  induction k with
  | zero => simp
  | succ k ih =>
   have e : ((ks[k]).recs.map LRec.key).length = (ks[k]).recs.length := List.length_map ..
   rw [flat_take ks k hk, List.length_append, e]
   have := ih (Nat.le_of_succ_le hk)
   have := (hg _ (List.getElem_mem hk)).ok.count
   omega))
 have HGC := Lib.hid (fun (k : Nat) (hk : k < ks.length) => (hg _ (List.getElem_mem hk)).ok.count)
 have HFU := Lib.hid (fun (k : Nat) (hk : k < ks.length) => (hg _ (List.getElem_mem hk)).full)
 obtain ⟨A, c, rfl, hlc, hcm, hs⟩ := h.segs
 unfold maxLen at hcm
 have c3 := (cell_of_block h.blk 3).trans rfl
 have HSG := Lib.hid hs
 have hkn2 : ks.length ≤ 200 := by omega
 clear h hs hT hd hg
 go_enter Tryz.func97, Tryz.ntmps97
 go_wp2_with fail
 refine HDN.out.mono ?_
 rintro e w' ⟨rfl, rfl⟩
 go_wp2_with fail
 go_loopw [3, 13] (fun vo vj wr => ∃ (k : Nat) (u : Value), k ≤ ks.length ∧ vj = .int .i64 k ∧ u = vo ∧ RecRow wr w.heap.size u (((ks.take k).flatMap Seg.recs).map LRec.key) ∧ Kp w wr) (fun _ vj _ => ks.length - (intOf vj).toNat)
 case atStart => exact ⟨0, _, Nat.zero_le _, rfl, rfl, by rw [List.take_zero]; exact RecRow.nil _ _, Keeps.refl _ _⟩
 case round =>
  obtain ⟨k, u, hk, rfl, hu, hrr, hkp⟩ := hrel
  subst hu
  by_cases hlt : k < ks.length
  ·obtain ⟨b, o, E, rfl, hbM, d0, d1, d2, hE⟩ := (HSG.out.keep (hkp.mono fun _ _ _ => trivial)) k hlt
   obtain ⟨AE, cE, rfl, -⟩ := hE.ex
   have HRR := Lib.hid hrr
   have HK := Lib.hid hkp
   have HE := Lib.hid hE
   have hk2 : Kp wr (wr.alloc (.cells #[.int .i64 ((ks[k]).slot : Int), .int .i64 ((ks[k]).first : Int), .slice AE (ks[k]).recs.length cE] 179)) := (Keeps.refl _ wr).alloc _
   have HK2 := Lib.hid hk2
   have HFL := Lib.hid (flat_take ks k hlt)
   have HMEM := Lib.hid (List.getElem_mem hlt)
   have hcn := HCN.out k hk
   have hgc := HGC.out k hlt
   have HFK := Lib.hid (HFU.out k hlt)
   generalize ks[k] = sg at d0 d1 d2 HE HK2 HFL HMEM hgc HFK
   obtain ⟨w0, hw0⟩ : ∃ w0, wr.alloc (.cells #[.int .i64 (sg.slot : Int), .int .i64 (sg.first : Int), .slice AE sg.recs.length cE] 179) = w0 := ⟨_, rfl⟩
   have HW0 := Lib.hid hw0
   rw [hw0] at HK2
   clear hrr hkp hE hk2 hw0
   go_wp2_with fail
   rw [HW0.out]
   refine (HBD.out w0 (HK.out.trans HK2.out) sg _ HMEM.out (HE.out.keep (HK2.out.mono fun _ _ _ => trivial))).mono ?_
   rintro e' w1 ⟨vb, rfl, hrb, hk1⟩
   obtain ⟨us, hu1, hu2, hu3⟩ := hrb.ex
   have hlen1 : (sg.recs.map LRec.key).length = sg.recs.length := List.length_map ..
   have hpos : 0 < (sg.recs.map LRec.key).length := by rw [hlen1]; exact List.length_pos_iff.2 HFK.out
   obtain ⟨ml, hml⟩ : ∃ ml, (sg.recs.map LRec.key).length = ml := ⟨_, rfl⟩
   rw [hml] at hu2 hpos hlen1
   have hml2 : ml ≤ 212 := by omega
   clear hlen1
   obtain ⟨g, cg, rfl, hbase, hglt⟩ := hu2.form hpos
   have hkk : Kp wr w1 := HK2.out.trans hk1
   have HRR1 := Lib.hid (HRR.out.keep hkk)
   obtain ⟨vs0, hv1, hv2, hv3⟩ := HRR1.out.ex
   have hown : ∀ b, u.ownBlock = some b → b < wr.heap.size := fun b hb => by
    obtain ⟨vs1, q1, q2, q3⟩ := HRR.out.ex
    exact (q2.lt b hb).2
   have HOB := Lib.hid hown
   have huone : ∀ v ∈ us, v.oneCell' = true := fun v hv => by
    obtain ⟨j, hj, e⟩ := List.getElem_of_mem hv
    obtain ⟨B, cc, e2, -⟩ := hu3 j (by rw [← hu1]; exact hj)
    rw [List.getElem?_eq_getElem hj, e] at e2
    injection e2 with e2
    rw [e2]; rfl
   have HSR := Lib.hid (src_recs w1 _ g cg ml (sg.recs.map LRec.key) us hml.symm hu1 huone hu2)
   have HK1 := Lib.hid (HK.out.trans hkk)
   have HV1 := Lib.hid hv1
   obtain ⟨vl, hvl⟩ : ∃ vl, (((ks.take k).flatMap Seg.recs).map LRec.key).length = vl := ⟨_, rfl⟩
   rw [hvl] at hv2 hcn
   have HV2 := Lib.hid hv2
   have HV3 := Lib.hid hv3
   have HVL := Lib.hid hvl
   have HML := Lib.hid hml
   have HU1 := Lib.hid hu1
   have HU3 := Lib.hid hu3
   have hz1 := HK1.out.size
   have hz2 := HK2.out.size
   have hz3 := HK.out.size
   clear hvl hml
   clear hv1 hv2 hv3 hu1 hu2 hu3 hk1 hrb hkk huone hown HRR HK2 HE HRR1
   go_wp2_with (at_builtin; refine rec_elem.list_append rfl (.tmp 17) (.tmp 20) _ rfl rfl HV2.out rfl HSR.out ?c3 ?c4 hz1 ?_)
   case c3 => unfold maxLen; omega
   case c4 => omega
   intro v5 w5 ho5 hg5 hb5
   have hown4 := HV2.out
   have HR5 := Lib.hid (show RecRow w5 w.heap.size v5 (((ks.take (k + 1)).flatMap Seg.recs).map LRec.key) from by
    rw [HFL.out]
    refine RecRow.put (w := w1) (v := u) (vs := vs0) (us := us) HV1.out (by rw [HVL.out]; exact HV2.out) HV3.out HU1.out (fun j hj => ?_) (by rw [HVL.out, HML.out]; exact ho5) hg5 hb5
    obtain ⟨B, cc, e, hr⟩ := HU3.out j hj
    exact ⟨B, cc, e, hr.mono fun b _ hb => ⟨by omega, fun e => by have := HOB.out b e; omega⟩⟩)
   have HK5 := Lib.hid (show Kp w w5 from HK1.out.grown hg5 fun b hb => (hown4.lt b hb).1)
   clear ho5 hg5 hb5 hown4 HV1 HV2 HV3 HSR HU1 HU3
   go_wp2_with fail
   go_roundw
   case rel => exact ⟨k + 1, _, by omega, by go_num, rfl, HR5.out, HK5.out⟩
   case measure => simp [intOf]; omega
  ·obtain rfl : k = ks.length := by omega
   rw [List.take_length] at hrr
   have H1 := Lib.hid hrr
   have H2 := Lib.hid hkp
   clear hrr hkp
   go_wp2_with fail
   go_ret
   exact ⟨_, rfl, H1.out, H2.out⟩
end Go.Proofs.YticophaepapjoaaGreatDoor
