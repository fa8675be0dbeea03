/-
  SlgCut, SlgBody, SlgChunked, GrowLay, Concat, SlgLay, SlgConcat, SlgRecs: texts of mine, joined.
-/
import Derived.Test.YticophaepapjoaaGreatDoorAllA13
import Derived.Test.YticophaepapjoaaGreatDoorAllA08
import Derived.Test.YticophaepapjoaaGreatDoorAllA12
import Derived.Shelf.Spec.SlicesGrow
import Derived.Ground.Names8Prog
import Derived.Test.YticophaepapjoaaGreatDoorProg
import Derived.Test.YticophaepapjoaaGreatDoorAllA04
import Derived.Test.YticophaepapjoaaGreatDoorAllA02
import Derived.Test.YticophaepapjoaaGreatDoorAllA00
import Derived.WalkSpells
import Derived.Lib.SmallJoins
import Derived.Outline
import Derived.Shelf.SlicesQ.Reverse
import Derived.Ground.SlgnProg
namespace Go.Proofs.YticophaepapjoaaGreatDoor
open Go Go.RowKit Go.Joins
def BodyV (w w' : World) (v : Value) (l : List UInt8) : Prop := ∃ A c, v = .slice A l.length c ∧ l.length ≤ c ∧ c ≤ maxLen ∧ Row w' A (fun b => w.heap.size ≤ b ∧ b < w'.heap.size) (bcells l) ∧ Mine w' .u8 A l.length
theorem BodyV.from {w0 w w' : World} {v : Value} {l : List UInt8} (h : BodyV w w' v l) (hs : w0.heap.size ≤ w.heap.size) : BodyV w0 w' v l := by
 obtain ⟨A, c, e, h1, h2, hr, hm⟩ := h
 exact ⟨A, c, e, h1, h2, hr.mono fun b _ hb => ⟨Nat.le_trans hs hb.1, hb.2⟩, hm⟩
theorem conv_body (w : World) (x : List UInt8) (hx : x.length ≤ 70000) : ∃ w1 v, (convert 9 64 (.string (txt x))).run Tryz.prog w = .ok v w1 ∧ BodyV w w1 v x ∧ Keeps (fun _ => True) w w1 := by
 have h := run_bytes_of_string (P := Tryz.prog) w 9 64 5 (txt x) Tryz.underlying9 Tryz.underlying64 Tryz.underlying5
 rw [txt_size] at h
 have hcell : ∀ i v, (bcells x)[i]? = some v → (bytesRow (txt x) (grownCap w x.length 0 5))[i]? = some v := fun i v hv => by
  have hi : i < x.length := by
   have := (List.getElem?_eq_some_iff.1 hv).1
   rwa [bcells_len] at this
  unfold bytesRow
  rw [Array.getElem?_append_left (by simpa [txt] using hi), ← hv]
  simp [bcells, txt]
  rfl
 have hsz : x.length ≤ (bytesRow (txt x) (grownCap w x.length 0 5)).size := by
  unfold bytesRow; simp [txt]
 refine ⟨_, _, h, ⟨_, _, rfl, grownCap_ge w _ _ _, grownCap_le_maxLen w _ _ _ (by unfold maxLen; omega), ?_, ?_⟩, ((Keeps.refl _ w).drew).alloc _⟩
 ·intro _
  refine ⟨_, 0, rfl, ⟨Nat.le_refl _, by simp⟩, fun i v hv => ?_⟩
  rw [Nat.zero_add]
  exact (cell_alloc_mark_at w.drew _ _ _ w.heap.size i rfl).trans (hcell i v hv)
 ·intro _
  refine ⟨w.heap.size, 0, _, _, _, rfl, heap_alloc_new w.drew _, fun i hi => ⟨?_, ?_⟩⟩
  ·rw [Nat.zero_add]
   have hv : (bcells x)[i]? = some (bcell x[i]) := by simp [bcells, hi]
   exact ⟨_, hcell i _ hv⟩
  ·rw [Nat.zero_add]
   refine (World.frozen?_alloc_mark w.drew _ _ _ _ i).trans ?_
   have : ¬ (bytesRow (txt x) (grownCap w x.length 0 5)).size ≤ i := by omega
   simp [this]
set_option maxRecDepth 100000 in
set_option maxHeartbeats 1000000 in
theorem cut_any (w : World) (g o c n u v : Nat) (G : Nat → Prop) (l y : List UInt8) (hr : Row w (some ⟨g, o, none⟩) G (bcells l)) (hn : l.length = n) (hnc : n ≤ c) (hcm : c ≤ maxLen) (huv : u < v) (hvn : v ≤ n) (hy : (l.drop u).take (v - u) = putT y) (hyl : y.length ≤ 300) :
  Calls Tryz.prog 150 #[.slice (some ⟨g, o, none⟩) n c, .int .i64 (u : Int), .int .i64 (v : Int)] w fun e w' => ∃ b, e = .returned (.tuple #[b, .bool true]) ∧ BodyV w w' b y ∧ Kp w w' := by
 have hcm' := hcm
 unfold maxLen at hcm'
 have hrow : Row w (some ⟨g, o + u, none⟩) G (bcells (putT y)) := by
  rw [← hy]
  exact bcells_take (cut_end (n := n) (k := u) (c := c) hr hn (by omega) (.inr ⟨by omega, hnc⟩)) _
 have hpl : (putT y).length = v - u := by rw [← hy, List.length_take, List.length_drop, hn]; omega
 have hpm := putT_most y hyl
 have hgt := get_text (some ⟨g, o + u, none⟩) (c - u) _ (putT y) w hrow (by omega) (by omega) (by omega)
 have hpt : getT (putT y) = (y, (putT y).length, 0) := by
  have h := getT_put y [] (by omega)
  rwa [List.append_nil] at h
 rw [hpt, hpl] at hgt
 simp only at hgt
 have HGT := Lib.hid hgt
 have d1 : decide ((n : Int) < (v : Int)) = false := by simp; omega
 have hne : ¬ c = u := by omega
 have h1 : u ≤ v := by omega
 have h2 : v ≤ c := by omega
 obtain ⟨w1, bv, hcv, hb, hk⟩ := conv_body w y (by omega)
 have HB := Lib.hid hb
 have HK := Lib.hid hk
 clear hgt hpt hpl hrow hr hy hb hk hn
 go_enter Tryz.func150, Tryz.ntmps150
 go_wp2_with fail
 refine HGT.out.mono ?_
 rintro e' w' ⟨rfl, rfl⟩
 rw [show ((0 : Nat) : Int) = 0 from rfl]
 go_wp2_with fail
 go_ret2
 exact ⟨_, rfl, HB.out, HK.out⟩
theorem sub_take (l : List UInt8) (a m z z1 : Nat) (h1 : 53 * a ≤ z) (h2 : z < z1) (h3 : z1 ≤ 53 * (a + m)) : (((l.drop (53 * a)).take (53 * m)).drop (z - 53 * a)).take (z1 - 53 * a - (z - 53 * a)) = (l.drop z).take (z1 - z) := by
 rw [List.drop_take, List.take_take, List.drop_drop]
 rw [show 53 * a + (z - 53 * a) = z by omega, show min (z1 - 53 * a - (z - 53 * a)) (53 * m - (z - 53 * a)) = z1 - z by omega]
def VB (b : Nat) (u v E : Value) (j z z1 : Nat) : Nat → World → Value → Prop
 | 0 => IsV (.agg #[u, v, E])
 | 1 => IsV (.int .i64 (j : Int))
 | 2 => IsV (.int .i64 (z : Int))
 | 3 => IsV (.agg #[u, v, E])
 | 4 => IsV (.int .i64 (j : Int))
 | 5 => IsV (.int .i64 ((j : Int) + 1))
 | 6 => IsV (.int .i64 (z1 : Int))
 | 7 => IsV (.int .i64 (z : Int))
 | 8 => IsV (.int .i64 (z1 : Int))
 | _ => fun _ _ => True
theorem VB_any {b : Nat} {u v E : Value} {j z z1 : Nat} (i : Nat) (w w' : World) (x : Value) (hv : VB b u v E j z z1 i w x) : VB b u v E j z z1 i w' x := by
 match i, hv with
 | 0, hv => exact hv
 | 1, hv => exact hv
 | 2, hv => exact hv
 | 3, hv => exact hv
 | 4, hv => exact hv
 | 5, hv => exact hv
 | 6, hv => exact hv
 | 7, hv => exact hv
 | 8, hv => exact hv
 | n + 9, _ => trivial
structure SegV (w : World) (G : Nat → Prop) (s : Seg) (E : Value) : Prop where
 ex : ∃ A c, E = .slice A s.recs.length c ∧ Row w A G (endsC s.recs)
theorem SegV.one {w : World} {G : Nat → Prop} {s : Seg} {E : Value} (h : SegV w G s E) : E.oneCell' = true := by
 obtain ⟨A, c, rfl, _⟩ := h.ex; rfl
theorem SegV.keep {w w' : World} {G : Nat → Prop} {s : Seg} {E : Value} (h : SegV w G s E) (hk : Keeps G w w') : SegV w' G s E := by
 obtain ⟨A, c, e, hr⟩ := h.ex; exact ⟨A, c, e, hr.keep hk⟩
theorem SegV.mono {w : World} {G H : Nat → Prop} {s : Seg} {E : Value} (h : SegV w G s E) (hh : ∀ b, G b → H b) : SegV w H s E := by
 obtain ⟨A, c, e, hr⟩ := h.ex; exact ⟨A, c, e, hr.mono fun b _ hb => hh b hb⟩
theorem seg_start (w : World) (G : Nat → Prop) (s : Seg) (E u v : Value) (h : SegV w G s E) (h1 : u.oneCell' = true) (h2 : v.oneCell' = true) (hn : s.recs.length ≤ 4096) (i : Nat) (hi : i ≤ s.recs.length) :
  Calls Tryz.prog 149 #[.agg #[u, v, E], .int .i64 (i : Int)] w fun e w' => e = .returned (.int .i64 (endAt s.recs i : Int)) ∧ Kp w w' := by
 obtain ⟨A, c, rfl, hr⟩ := h.ex
 exact start_any w u v A c G s.recs h1 h2 hr hn i hi
theorem seg_count (w : World) (G : Nat → Prop) (s : Seg) (E u v : Value) (h : SegV w G s E) (h1 : u.oneCell' = true) (h2 : v.oneCell' = true) :
  Calls Tryz.prog 148 #[.agg #[u, v, E]] w fun e w' => e = .returned (.int .i64 (s.recs.length : Int)) ∧ Kp w w' := by
 obtain ⟨A, c, rfl, hr⟩ := h.ex
 exact count_any w u v A _ c h1 h2
set_option maxRecDepth 100000 in
set_option maxHeartbeats 4000000 in
theorem body_any (w : World) (hT : Taken w) (q p i n : Nat) (hL : LHead w q p i n) (F : Foot) (s : SDev) (hd : DAt w p F s) (sg : Seg) (E : Value) (G : Nat → Prop) (hE : SegV w G sg E) (hok : sg.Ok) (hon : SegOn s.now i sg)
  (hi : i ≤ 2048) (hsl : sg.slot ≤ 2048) (hf : sg.first ≤ 274877906943) (hin : i + sg.slot * 8 + 8 ≤ s.now.length) (j : Nat) (hj : j < sg.recs.length) :
  Calls Tryz.prog 119 #[.pointer (some ⟨q, 0, none⟩), .agg #[.int .i64 (sg.slot : Int), .int .i64 (sg.first : Int), E], .int .i64 (j : Int)] w fun e w' => ∃ b, e = .returned (.tuple #[b, .bool true]) ∧ BodyV w w' b (sg.recs[j]).body ∧ Kp w w' := by
 have hcnt := hok.count
 have hlen := hok.len
 obtain ⟨z, hz⟩ : ∃ z, endAt sg.recs j = z := ⟨_, rfl⟩
 obtain ⟨z1, hz1⟩ : ∃ z1, endAt sg.recs (j + 1) = z1 := ⟨_, rfl⟩
 have hlt : z < z1 := by rw [← hz, ← hz1]; exact endAt_lt _ _ hj
 have hle : z1 ≤ sg.text.length := by rw [← hz1]; exact endAt_le _ _
 have hst : ∀ w', Kp w w' → ∀ k, k ≤ sg.recs.length → _ := fun w' hk k hkl => seg_start w' G sg E (.int .i64 (sg.slot : Int)) (.int .i64 (sg.first : Int)) (hE.keep (hk.mono fun _ _ _ => trivial)) rfl rfl (by omega) k hkl
 have HST := Lib.hid hst
 have HSM := Lib.hid (fun (w' : World) (hk : Kp w w') (a e : Nat) (hae : a ≤ e) (he : e ≤ 8) => stream_any w' (hT.keep hk) q p i n (hL.keep hk trivial) F s (hd.keep (hk.mono fun _ _ _ => trivial)) sg.slot sg.first sg.text E hE.one hon.has hon.rest hlen hi hsl hf hin a e hae he)
 have HREC := Lib.hid (show (sg.text.drop z).take (z1 - z) = putT (sg.recs[j]).body by rw [← hz, ← hz1]; exact strm_rec sg.recs j hj)
 have HB3 := Lib.hid (hok.one _ (List.getElem_mem hj)).2
 have hEone := hE.one
 have HZ := Lib.hid hz
 have HZ1 := Lib.hid hz1
 have HJ := Lib.hid hj
 have hk0 : Kp w (w.alloc (.cells #[.int .i64 (sg.slot : Int), .int .i64 (sg.first : Int), E] 179)) := (Keeps.refl _ w).alloc _
 have HK0 := Lib.hid hk0
 have HB0 := Lib.hid (SBox.new w sg.slot sg.first E)
 have HZ0 := Lib.hid (show w.heap.size < (w.alloc (.cells #[.int .i64 (sg.slot : Int), .int .i64 (sg.first : Int), E] 179)).heap.size from by simp)
 generalize (sg.recs[j]).body = y at HREC HB3 ⊢
 have hj300 : j ≤ 300 := by omega
 clear hT hL hd hE hok hon hst hz hz1 hj hk0 hin
 go_enter Tryz.func119, Tryz.ntmps119
 go_wp2_with fail
 obtain ⟨w0, hw0⟩ : ∃ w0, w.alloc (.cells #[.int .i64 (sg.slot : Int), .int .i64 (sg.first : Int), E] 179) = w0 := ⟨_, rfl⟩
 rw [hw0]
 rw [hw0] at HK0 HB0 HZ0
 clear hw0
 refine wp_region_guard (R := Kp) (V := VB w.heap.size (.int .i64 (sg.slot : Int)) (.int .i64 (sg.first : Int)) E j z z1) (w0 := w0) GE (by kernel_rfl) (fun w => Keeps.refl _ w) (fun _ _ _ h k => h.trans k) (fun i w w' v _ hv => VB_any i w w' v hv) (by kernel_rfl) GE_is (fun i o ho hw => (all_wanted (by kernel_rfl) ho hw).elim) ((Keeps.refl _ w0).drew) (each_of ?_) ?_
 ·refine ⟨?_, ?_, ?_, ?_, ?_, ?_, ?_, ?_, ?_, trivial⟩ <;> intro hw a1 w3 L
  ·have hb := HB0.out.keep L.rel trivial
   exact kp_lG hb.s hb.f hb.e rfl (L.old 4 (by kernel_rfl))
  ·exact kp_move rfl (L.old 2 (by kernel_rfl))
  ·have e0 : a1.eval (.tmp 11) = .agg #[.int .i64 (sg.slot : Int), .int .i64 (sg.first : Int), E] := L.val 0 11 (by kernel_rfl) (by kernel_rfl)
   have e1 : a1.eval (.tmp 12) = .int .i64 (j : Int) := L.val 1 12 (by kernel_rfl) (by kernel_rfl)
   have hf : a1.eval (.func 149) = .func (.func 149) #[] #[] := rfl
   refine kp_enter (f := 149) (args := #[.agg #[.int .i64 (sg.slot : Int), .int .i64 (sg.first : Int), E], .int .i64 (j : Int)]) ?_ (HST.out w3 (HK0.out.trans L.rel) j (Nat.le_of_lt HJ.out)) ?_
   ·clear L
    generalize a1.eval = ρ at e0 e1 hf ⊢
    unfold execOp
    go_simp
   ·rintro e w' ⟨rfl, hk⟩
    exact ⟨_, rfl, hk, by rw [HZ.out]; rfl⟩
  ·have hb := HB0.out.keep L.rel trivial
   exact kp_lG hb.s hb.f hb.e rfl (L.old 4 (by kernel_rfl))
  ·exact kp_move rfl (L.old 2 (by kernel_rfl))
  ·have e0 : a1.eval (.tmp 15) = .int .i64 (j : Int) := L.val 4 15 (by kernel_rfl) (by kernel_rfl)
   have hcn : a1.eval (.const (.int .i64 1)) = .int .i64 1 := rfl
   have hw1 : IntKind.i64.wrap ((j : Int) + 1) = (j : Int) + 1 := by rw [IntKind.wrap_i64]; omega
   refine kp_yield (v := .int .i64 ((j : Int) + 1)) (w' := w3) ?_ (Keeps.refl _ _) rfl
   clear L
   generalize a1.eval = ρ at e0 hcn ⊢
   unfold execOp
   go_simp
  ·have e0 : a1.eval (.tmp 14) = .agg #[.int .i64 (sg.slot : Int), .int .i64 (sg.first : Int), E] := L.val 3 14 (by kernel_rfl) (by kernel_rfl)
   have e1 : a1.eval (.tmp 16) = .int .i64 ((j : Int) + 1) := L.val 5 16 (by kernel_rfl) (by kernel_rfl)
   have hf : a1.eval (.func 149) = .func (.func 149) #[] #[] := rfl
   have hc := HST.out w3 (HK0.out.trans L.rel) (j + 1) HJ.out
   rw [show ((j + 1 : Nat) : Int) = (j : Int) + 1 by omega] at hc
   refine kp_enter (f := 149) (args := #[.agg #[.int .i64 (sg.slot : Int), .int .i64 (sg.first : Int), E], .int .i64 ((j : Int) + 1)]) ?_ hc ?_
   ·clear L hc
    generalize a1.eval = ρ at e0 e1 hf ⊢
    unfold execOp
    go_simp
   ·rintro e w' ⟨rfl, hk⟩
    exact ⟨_, rfl, hk, by rw [HZ1.out]; rfl⟩
  ·exact kp_assign rfl (L.val 2 13 (by kernel_rfl) (by kernel_rfl))
  ·exact kp_assign rfl (L.val 6 17 (by kernel_rfl) (by kernel_rfl))
 ·intro vs w4 hk4 hlen4 hv
  match vs, hlen4 with
  | [v0, v1, v2, v3, v4, v5, v6, v7, v8], _ =>
   have e7 : v7 = .int .i64 (z : Int) := hv 7 8 (by kernel_rfl)
   have e8 : v8 = .int .i64 (z1 : Int) := hv 8 9 (by kernel_rfl)
   clear hv
   subst e7 e8
   simp only [putAll, List.map, Act.put, List.setIfInBounds_toArray, List.set_cons_succ, List.set_cons_zero, Exit.then]
   have hb4 := HB0.out.keep hk4 trivial
   have c0 := hb4.s
   have c1 := hb4.f
   have c2 := hb4.e
   have HK4 := Lib.hid (HK0.out.trans hk4)
   clear hk4 hb4
   obtain ⟨a, ha⟩ : ∃ a, z / 53 = a := ⟨_, rfl⟩
   obtain ⟨r, hr⟩ : ∃ r, (z1 - 1) / 53 = r := ⟨_, rfl⟩
   obtain ⟨u, hu⟩ : ∃ u, z - 53 * a = u := ⟨_, rfl⟩
   obtain ⟨v, hv⟩ : ∃ v, z1 - 53 * a = v := ⟨_, rfl⟩
   have q1 : (z : Int) / 53 = (a : Int) := by omega
   have q1' : (z : Int).tdiv 53 = (a : Int) := by rw [Int.tdiv_eq_ediv_of_nonneg (by omega)]; exact q1
   have q2 : ((z1 : Int) - 1) / 53 = (r : Int) := by omega
   have q2' : ((z1 : Int) - 1).tdiv 53 = (r : Int) := by rw [Int.tdiv_eq_ediv_of_nonneg (by omega)]; exact q2
   have q4 : (z : Int) - (a : Int) * 53 = (u : Int) := by omega
   have q5 : (z1 : Int) - (a : Int) * 53 = (v : Int) := by omega
   have b1 : a ≤ 8 := by omega
   have b2 : r ≤ 7 := by omega
   have b3 : a ≤ r + 1 := by omega
   have hs := HSM.out w4 HK4.out a (r + 1) (by omega) (by omega)
   rw [show ((r + 1 : Nat) : Int) = (r : Int) + 1 by omega] at hs
   have HS := Lib.hid hs
   have hsub := sub_take sg.text a (r + 1 - a) z z1 (by omega) hlt (by omega)
   rw [HREC.out, hu, hv] at hsub
   have hnl : ((sg.text.drop (53 * a)).take (53 * (r + 1 - a))).length = min (53 * (r + 1 - a)) (sg.text.length - 53 * a) := by rw [List.length_take, List.length_drop]
   generalize hl : (sg.text.drop (53 * a)).take (53 * (r + 1 - a)) = l at HS hsub hnl
   have hvl : v ≤ l.length := by omega
   have huv : u < v := by omega
   have hll : l.length ≤ 424 := by omega
   have HSUB := Lib.hid hsub
   clear hs hsub hl hnl HSM HST
   go_wp2_with fail
   refine HS.out.mono ?_
   rintro e' w5 ⟨vo, rfl, ho, hk5⟩
   obtain ⟨g, c, rfl, hbase, hglt⟩ := ho.form (by omega)
   have hroom := own_room ho
   have HC := Lib.hid (cut_any w5 g 0 c l.length u v _ l y (own_row ho) rfl hroom.1 hroom.2 huv hvl HSUB.out HB3.out)
   have HK5 := Lib.hid (HK4.out.trans hk5)
   clear ho hk5 hroom HS HK4 c0 c1 c2
   go_wp2_with fail
   refine HC.out.mono ?_
   rintro e' w6 ⟨bv, rfl, hbv, hk6⟩
   have H1 := Lib.hid (hbv.from (w0 := w) HK5.out.size)
   have H2 := Lib.hid (HK5.out.trans hk6)
   clear hbv hk6 HK5 HC
   go_wp2_with fail
   go_ret2
   exact ⟨_, rfl, H1.out, H2.out⟩
end Go.Proofs.YticophaepapjoaaGreatDoor
namespace Go.Proofs.YticophaepapjoaaGreatDoor
open Go Go.RowKit Go.Joins Go.Shelf
attribute [local go_sem] Oper.semAt_some
def VE (u v E : Value) (m z : Nat) : Nat → World → Value → Prop
 | 0 => IsV (.agg #[u, v, E])
 | 1 => IsV (.agg #[u, v, E])
 | 2 => IsV (.int .i64 (m : Int))
 | 3 => IsV (.int .i64 (z : Int))
 | 4 => IsV (.int .i64 (z : Int))
 | _ => fun _ _ => True
theorem VE_any {u v E : Value} {m z : Nat} (i : Nat) (w w' : World) (x : Value) (hv : VE u v E m z i w x) : VE u v E m z i w' x := by
 match i, hv with
 | 0, hv => exact hv
 | 1, hv => exact hv
 | 2, hv => exact hv
 | 3, hv => exact hv
 | 4, hv => exact hv
 | _ + 5, _ => trivial
set_option maxRecDepth 100000 in
theorem end_any (w : World) (u v : Value) (A : Option Addr) (c : Nat) (G : Nat → Prop) (rs : List LRec) (h1 : u.oneCell' = true) (h2 : v.oneCell' = true) (hr : Row w A G (endsC rs)) (hn : rs.length ≤ 4096) :
  Calls Tryz.prog 136 #[.agg #[u, v, .slice A rs.length c]] w fun e w' => e = .returned (.int .i64 (endAt rs rs.length : Int)) ∧ Kp w w' := by
 have HR := Lib.hid hr
 clear hr
 obtain ⟨m, hm⟩ : ∃ m, rs.length = m := ⟨_, rfl⟩
 have HM := Lib.hid hm
 rw [hm] at hn ⊢
 clear hm
 go_enter Tryz.func136, Tryz.ntmps136
 go_wp2_with fail
 have HK0 := Lib.hid (show Kp w (w.alloc (.cells #[u, v, .slice A m c] 179)) from (Keeps.refl _ w).alloc _)
 have HB := Lib.hid (show (w.alloc (.cells #[u, v, .slice A m c] 179)).heap[w.heap.size]? = some (.cells #[u, v, .slice A m c] 179 (0, 0)) from heap_alloc_new w _)
 have HZ := Lib.hid (show w.heap.size < (w.alloc (.cells #[u, v, .slice A m c] 179)).heap.size from by simp)
 generalize w.alloc (.cells #[u, v, .slice A m c] 179) = w0 at HK0 HB HZ ⊢
 have HS := Lib.hid (show ∀ w', Kp w w' → Calls Tryz.prog 149 #[.agg #[u, v, .slice A m c], .int .i64 (m : Int)] w' fun e w2 => e = .returned (.int .i64 (endAt rs m : Int)) ∧ Kp w' w2 from fun w' hk => by
  have := start_any w' u v A c G rs h1 h2 (HR.out.keep (hk.mono fun _ _ _ => trivial)) (by rw [HM.out]; exact hn) m (by rw [HM.out]; omega)
  rw [HM.out] at this
  exact this)
 refine wp_region_guard (R := Kp) (V := VE u v (.slice A m c) m (endAt rs m)) (w0 := w0) GE (by kernel_rfl) (fun w => Keeps.refl _ w) (fun _ _ _ h k => h.trans k) (fun i w w' v _ hv => VE_any i w w' v hv) (by kernel_rfl) GE_is (fun i o ho hw => (all_wanted (by kernel_rfl) ho hw).elim) ((Keeps.refl _ w0).drew) (each_of ?_) ?_
 ·refine ⟨?_, ?_, ?_, ?_, ?_, trivial⟩ <;> intro hw a1 w3 L
  ·have hb := (L.rel.block w.heap.size trivial HZ.out).trans HB.out
   exact kp_lG ((cell_of_block hb 0).trans rfl) ((cell_of_block hb 1).trans rfl) ((cell_of_block hb 2).trans rfl) rfl (L.old 1 (by kernel_rfl))
  ·have hb := (L.rel.block w.heap.size trivial HZ.out).trans HB.out
   exact kp_lG ((cell_of_block hb 0).trans rfl) ((cell_of_block hb 1).trans rfl) ((cell_of_block hb 2).trans rfl) rfl (L.old 1 (by kernel_rfl))
  ·have e0 : a1.eval (.tmp 4) = .agg #[u, v, .slice A m c] := L.val 1 4 (by kernel_rfl) (by kernel_rfl)
   have hf : a1.eval (.func 148) = .func (.func 148) #[] #[] := rfl
   refine kp_enter (f := 148) (args := #[.agg #[u, v, .slice A m c]]) ?_ (count_any w3 u v A m c h1 h2) ?_
   ·clear L
    generalize a1.eval = ρ at e0 hf ⊢
    unfold execOp
    go_simp
   ·rintro e w' ⟨rfl, hk⟩
    exact ⟨_, rfl, hk, rfl⟩
  ·have e0 : a1.eval (.tmp 3) = .agg #[u, v, .slice A m c] := L.val 0 3 (by kernel_rfl) (by kernel_rfl)
   have e1 : a1.eval (.tmp 5) = .int .i64 (m : Int) := L.val 2 5 (by kernel_rfl) (by kernel_rfl)
   have hf : a1.eval (.func 149) = .func (.func 149) #[] #[] := rfl
   refine kp_enter (f := 149) (args := #[.agg #[u, v, .slice A m c], .int .i64 (m : Int)]) ?_ (HS.out w3 (HK0.out.trans L.rel)) ?_
   ·clear L
    generalize a1.eval = ρ at e0 e1 hf ⊢
    unfold execOp
    go_simp
   ·rintro e w' ⟨rfl, hk⟩
    exact ⟨_, rfl, hk, rfl⟩
  ·exact kp_assign rfl (L.val 3 6 (by kernel_rfl) (by kernel_rfl))
 ·intro vs w4 hk4 hlen4 hv
  match vs, hlen4 with
  | [v0, v1, v2, v3, v4], _ =>
   have e4 : v4 = .int .i64 (endAt rs m : Int) := hv 4 2 (by kernel_rfl)
   clear hv
   subst e4
   simp only [putAll, List.map, Act.put, List.setIfInBounds_toArray, List.set_cons_succ, List.set_cons_zero, Exit.then]
   go_wp2_with fail
   go_ret
   exact ⟨rfl, HK0.out.trans hk4⟩
set_option maxRecDepth 100000 in
theorem chunk_in (F : Fence) (n : Nat) (hfn : F.fn 137) (hro : F.round = none) (v : Value) (hv : v.oneCell' = true) (w : World) :
  CallsIn F n Tryz.prog 137 #[v, .int .i64 53] w fun e w' => ∃ Bs Bn, e = .returned (.func (.func 172) #[] #[.pointer (some ⟨Bs, 0, none⟩), .pointer (some ⟨Bn, 0, none⟩)]) ∧
   w'.cell? ⟨Bs, 0, none⟩ = some v ∧ w'.cell? ⟨Bn, 0, none⟩ = some (.int .i64 53) ∧ w.heap.size ≤ Bs ∧ w.heap.size ≤ Bn ∧ Kp w w' := by
 refine callsIn_of_wp Tryz.func137 rfl hfn ?_ hro
 simp only [Tryz.ntmps137, List.size_toArray, List.length_cons, List.length_nil, Nat.reduceAdd, Nat.reduceSub, Array.replicate_succ, Array.replicate_zero, List.push_toArray, List.append_toArray, List.nil_append, List.cons_append]
 gi_wp2
 go_ret
 refine ⟨_, _, rfl, ?_, ?_, Nat.le_refl _, Nat.le_succ _, ((Keeps.refl _ w).alloc _).alloc _⟩
 ·rw [World.cell?_alloc_lt _ _ _ (by simp), World.cell?_alloc_at _ _ _ _ rfl]; rfl
 ·rw [World.cell?_alloc_at _ _ _ _ (by simp)]; rfl
theorem chunk_stops (F : Fence) (n : Nat) (hfn : F.fn 172) (hro : F.round = none) (hn : 1 ≤ n) (Bs Bn g o len cap : Nat) (hlc : len ≤ cap) (hlm : len ≤ 1000000000000) (w : World)
  (hBs : w.cell? ⟨Bs, 0, none⟩ = some (.slice (some ⟨g, o, none⟩) len cap)) (hBn : w.cell? ⟨Bn, 0, none⟩ = some (.int .i64 53)) :
  SeqStopsK F n Tryz.prog 172 #[.pointer (some ⟨Bs, 0, none⟩), .pointer (some ⟨Bn, 0, none⟩)] (encCh g o len) (KpB Bs Bn) (fun ys => ys = List.range (chunks len)) (fun pre => ∃ k, k ≤ chunks len ∧ pre = List.range k) (chunks len) w := fun l J Jx W hW hJ _ hY h0 =>
 chunk1_in F n hfn hro hn l Bs Bn g o len cap hlc hlm J Jx (fun s W' h => hJ s W' W'.drew none h ⟨rfl, rfl, rfl, Nat.le_refl _, fun _ _ _ => rfl⟩ (fun r e => by cases e)) hY W
  ((hW.cell (p := ⟨Bs, 0, none⟩) (World.block_lt_of_cell? w _ hBs)).trans hBs) ((hW.cell (p := ⟨Bn, 0, none⟩) (World.block_lt_of_cell? w _ hBn)).trans hBn) h0
end Go.Proofs.YticophaepapjoaaGreatDoor
namespace Go.Proofs
open Go.Shelf
def Tryz.growA_ren : Go.Shelf.Ren := ⟨fun | 4 => 171 | n => n, fun | 22 => 64 | 25 => 5 | 3 => 3 | 4 => 4 | 9 => 9 | 20 => 20 | 0 => 0 | n => n, fun | n => n⟩
theorem Tryz.growA : Go.Proofs.Lays8.n4 Tryz.prog Tryz.growA_ren := {
 mixed := by kernel_rfl
 f4 := ⟨Tryz.f171.name, by decide, Tryz.func171.trans (congrArg some (by kernel_rfl))⟩
 t0 := Tryz.underlying0
 a0 := Tryz.isAgg0
 z0 := Tryz.sizeOf0
 v0 := Tryz.zeroValue0
 t3 := Tryz.underlying3
 a3 := Tryz.isAgg3
 z3 := Tryz.sizeOf3
 v3 := Tryz.zeroValue3
 t4 := Tryz.underlying4
 a4 := Tryz.isAgg4
 z4 := Tryz.sizeOf4
 v4 := Tryz.zeroValue4
 t9 := Tryz.underlying9
 a9 := Tryz.isAgg9
 z9 := Tryz.sizeOf9
 v9 := Tryz.zeroValue9
 t20 := Tryz.underlying20
 a20 := Tryz.isAgg20
 z20 := Tryz.sizeOf20
 v20 := Tryz.zeroValue20
 t22 := Tryz.underlying64
 a22 := Tryz.isAgg64
 z22 := Tryz.sizeOf64
 v22 := Tryz.zeroValue64 }
end Go.Proofs
namespace Go.Proofs.YticophaepapjoaaGreatDoor
open Go Go.RowKit Go.Joins
theorem joined_take (ps : List Part) (k : Nat) (h : k < ps.length) : joined (ps.take (k + 1)) = joined (ps.take k) ++ (ps[k]).l := by
 unfold joined
 rw [take_next _ _ h, List.flatMap_append, List.flatMap_cons, List.flatMap_nil, List.append_nil]
theorem joined_le (ps : List Part) (k : Nat) : (joined (ps.take k)).length ≤ (joined ps).length := by
 have e : joined (ps.take k) ++ joined (ps.drop k) = joined ps := by unfold joined; rw [← List.flatMap_append, List.take_append_drop]
 rw [← e, List.length_append]; omega
theorem grow_nil (w : World) (n : Nat) (h0 : 0 < n) (hn : n ≤ 1000000) :
  Calls Tryz.prog 171 #[.slice none 0 0, .int .i64 (n : Int)] w fun e w' => ∃ v, e = .returned v ∧ OwnB w' w.heap.size v [] ∧ Kp w w' := by
 obtain ⟨i, hi, hz, hs, hb⟩ := info_parts byte_elem.info
 have hg := Any8.slices_Grow_grow Tryz.growA i (.int .u8 0) hi hz (by omega) none 0 0 n [] w (Nat.le_refl _) (by omega) (by rw [hb]; omega) (by omega) (by simp) (fun _ => rfl) (fun a h => by cases h)
 rw [show Tryz.growA_ren.t 25 = 5 from rfl] at hg
 refine (show Calls _ _ _ _ _ from hg).mono ?_
 rintro e w' ⟨rfl, rfl⟩
 refine ⟨_, rfl, ?_, ((Keeps.refl _ w).drew).alloc _⟩
 have hge := grownCap_ge w (0 + n) 0 5
 have hcm := grownCap_le_maxLen w (0 + n) 0 5 (by unfold maxLen; omega)
 unfold OwnB
 refine ⟨by simp [bcells], .inr ⟨w.heap.size, _, _, rfl, Nat.le_refl _, heap_alloc_new w.drew _, Nat.zero_le _, hcm, ?_, by simp [bcells]⟩⟩
 have e1 : (Value.int IntKind.u8 0).cells.size = 1 := rfl
 simp only [Array.size_append, List.size_toArray, List.length_nil, size_zeroCells, e1]
 omega
set_option maxRecDepth 100000 in
set_option maxHeartbeats 1000000 in
theorem concat_any (w : World) (B : Option Addr) (d : Nat) (ps : List Part) (F G : Nat → Prop) (hB : Row w B G (ps.map Part.val)) (hp : Parts w F ps) (hn : ps.length ≤ 100) (hj : 0 < (joined ps).length) (hj2 : (joined ps).length ≤ 100000) :
  Calls Tryz.prog 135 #[.slice B ps.length d] w fun e w' => ∃ v, e = .returned v ∧ OwnB w' w.heap.size v (joined ps) ∧ Kp w w' := by
 have HB := Lib.hid hB
 have HP := Lib.hid hp
 have HLE := Lib.hid (joined_le ps)
 have HJ := Lib.hid (show joined (ps.take ps.length) = joined ps from by rw [List.take_length])
 obtain ⟨N, hN⟩ : ∃ N, (joined ps).length = N := ⟨_, rfl⟩
 have HN := Lib.hid hN
 rw [hN] at hj hj2
 have hg := Lib.hid (fun w' => grow_nil w' N hj (by omega))
 clear hB hp hN
 go_enter Tryz.func135, Tryz.ntmps135
 go_wp2_with fail
 go_loopw [3, 11] (fun vs vi wr => ∃ (k m : Nat), k ≤ ps.length ∧ vi = .int .i64 k ∧ vs = .int .i64 m ∧ RowKit.Hid (m = (joined (ps.take k)).length) ∧ Kp w wr) (fun _ vi _ => ps.length - (intOf vi).toNat)
 case atStart => exact ⟨0, 0, Nat.zero_le _, rfl, rfl, Lib.hid (by simp [joined]), Keeps.refl _ _⟩
 case round =>
  obtain ⟨k, m, hk, rfl, rfl, hm, hkp0⟩ := hrel
  have hmle : m ≤ N := by have := HLE.out k; rw [hm.out, ← HN.out]; exact this
  by_cases hlt : k < ps.length
  ·obtain ⟨b, o, rfl, -, hcell⟩ := (HB.out.keep (hkp0.mono fun _ _ _ => trivial)).at_ (k := k) (by simpa using hlt)
   simp only [List.getElem_map, Part.val] at hcell
   have HT := Lib.hid (joined_take ps k hlt)
   have hm2 : m + (ps[k]).l.length ≤ N := by
    have h := HLE.out (k + 1)
    rw [HT.out, List.length_append, ← hm.out] at h
    rw [← HN.out]; exact h
   generalize ps[k] = pk at hcell HT hm2
   have HK0 := Lib.hid hkp0
   clear hkp0
   have hnn : ¬ ((m : Int) + (pk.l.length : Int) < 0) := by omega
   go_wp2_with fail
   go_roundw
   case rel => exact ⟨k + 1, m + pk.l.length, by omega, by go_num, by go_num, Lib.hid (by rw [HT.out, List.length_append, hm.out]), HK0.out⟩
   case measure => simp [intOf]; omega
  ·obtain rfl : k = ps.length := by omega
   obtain rfl : m = N := by rw [hm.out, HJ.out, HN.out]
   go_wp2_with fail
   refine (hg.out _).mono ?_
   rintro e w1 ⟨v1, rfl, ho1, hk1⟩
   have HO1 := Lib.hid (ownsRow_le ho1 hkp0.size)
   have HK1 := Lib.hid (hkp0.trans hk1)
   clear ho1 hk1 hg hkp0
   go_wp2_with fail
   go_loopw [6, 27] (fun vo vi wr => ∃ (k : Nat) (u : Value), k ≤ ps.length ∧ vi = .int .i64 k ∧ u = vo ∧ OwnB wr w.heap.size u (joined (ps.take k)) ∧ Kp w wr) (fun _ vi _ => ps.length - (intOf vi).toNat)
   case atStart => exact ⟨0, _, Nat.zero_le _, rfl, rfl, by rw [List.take_zero]; exact HO1.out, HK1.out⟩
   case round =>
    obtain ⟨k, u, hk, rfl, hu, ho, hkp⟩ := hrel
    subst hu
    by_cases hlt : k < ps.length
    ·obtain ⟨b, o, rfl, -, hcell⟩ := (HB.out.keep (hkp.mono fun _ _ _ => trivial)).at_ (k := k) (by simpa using hlt)
     simp only [List.getElem_map, Part.val] at hcell
     have HT := Lib.hid (joined_take ps k hlt)
     have hrw := (HP.out _ (List.getElem_mem hlt)).1.keep (hkp.mono fun _ _ _ => trivial)
     have hle := HLE.out (k + 1)
     rw [HT.out, List.length_append, HN.out] at hle
     obtain ⟨x, hx⟩ : ∃ x, (joined (ps.take k)).length = x := ⟨_, rfl⟩
     rw [hx] at hle
     have HX := Lib.hid hx
     generalize ps[k] = pk at hcell HT hle hrw
     have hs := hrw.src (P := Tryz.prog) (c := pk.cap) Tryz.underlying64 (bcells_one _)
     rw [bcells_len] at hs
     have HS := Lib.hid hs
     have HO := Lib.hid (show wr.ownsRow w.heap.size 5 1 u x (bcells (joined (ps.take k))) from by rw [← hx]; exact ho)
     have HK := Lib.hid hkp
     have hsz := hkp.size
     clear ho hkp hx hs hrw
     go_wp2_with (at_builtin; refine byte_elem.list_append rfl (.tmp 31) (.tmp 32) _ rfl rfl HO.out rfl HS.out ?c3 ?c4 hsz ?_)
     case c3 => unfold maxLen; omega
     case c4 => omega
     intro v5 w5 ho5 hg5 hb5
     have hown := HO.out
     have H1 := Lib.hid (show OwnB w5 w.heap.size v5 (joined (ps.take (k + 1))) from by
      rw [HT.out]
      exact OwnB.snoc ho5 (by rw [List.length_append, HX.out]) rfl)
     have H2 := Lib.hid (show Kp w w5 from HK.out.grown hg5 fun b hb => (hown.lt b hb).1)
     clear ho5 hg5 hb5 hown HO HS
     go_wp2_with fail
     go_roundw
     case rel => exact ⟨k + 1, _, by omega, by go_num, rfl, H1.out, H2.out⟩
     case measure => simp [intOf]; omega
    ·obtain rfl : k = ps.length := by omega
     rw [HJ.out] at ho
     have H1 := Lib.hid ho
     have H2 := Lib.hid hkp
     clear ho hkp
     go_wp2_with fail
     go_ret
     exact ⟨_, rfl, H1.out, H2.out⟩
end Go.Proofs.YticophaepapjoaaGreatDoor
namespace Go.Proofs
open Go.Shelf
def Tryz.reverseA_ren : Go.Shelf.Ren := ⟨fun | 35 => 193 | n => n, fun | 22 => 135 | 23 => 179 | 3 => 3 | 4 => 4 | 0 => 0 | n => n, fun | n => n⟩
theorem Tryz.reverseA : Go.Proofs.SlLaysE0.n35 Tryz.prog Tryz.reverseA_ren := {
 mixed := by kernel_rfl
 f35 := ⟨Tryz.f193.name, by decide, Tryz.func193.trans (congrArg some (by kernel_rfl))⟩
 t0 := Tryz.underlying0
 a0 := Tryz.isAgg0
 z0 := Tryz.sizeOf0
 v0 := Tryz.zeroValue0
 t3 := Tryz.underlying3
 a3 := Tryz.isAgg3
 z3 := Tryz.sizeOf3
 v3 := Tryz.zeroValue3
 t4 := Tryz.underlying4
 a4 := Tryz.isAgg4
 z4 := Tryz.sizeOf4
 v4 := Tryz.zeroValue4
 t22 := Tryz.underlying135
 a22 := Tryz.isAgg135
 z22 := Tryz.sizeOf135
 v22 := Tryz.zeroValue135 }
end Go.Proofs
namespace Go.Proofs.YticophaepapjoaaGreatDoor
end Go.Proofs.YticophaepapjoaaGreatDoor
namespace Go.Proofs.YticophaepapjoaaGreatDoor
open Go Go.RowKit Go.Joins
theorem rec_elem : Elem Tryz.prog 169 172 (.agg #[.int .i64 0, .slice none 0 0]) 2 32 := ⟨Tryz.underlying169, by kernel_rfl, rfl, by decide⟩
def recC : List (Nat × List UInt8) → List Value → List Value
 | p :: ps, v :: vs => .int .i64 (p.1 : Int) :: v :: recC ps vs
 | _, _ => []
theorem recC_append (ps : List (Nat × List UInt8)) (vs : List Value) (qs : List (Nat × List UInt8)) (us : List Value) (h : vs.length = ps.length) : recC (ps ++ qs) (vs ++ us) = recC ps vs ++ recC qs us := by
 induction ps generalizing vs with
 | nil => cases vs with
  | nil => rfl
  | cons v vs => cases h
 | cons p ps ih => cases vs with
  | nil => cases h
  | cons v vs => simp only [List.cons_append, recC]; rw [ih vs (by simpa using h)]
theorem recC_len (ps : List (Nat × List UInt8)) (vs : List Value) (h : vs.length = ps.length) : (recC ps vs).length = ps.length * 2 := by
 induction ps generalizing vs with
 | nil => cases vs with
  | nil => rfl
  | cons v vs => cases h
 | cons p ps ih => cases vs with
  | nil => cases h
  | cons v vs => simp only [recC, List.length_cons]; rw [ih vs (by simpa using h)]; omega
theorem recC_at (ps : List (Nat × List UInt8)) (vs : List Value) (h : vs.length = ps.length) (j : Nat) (hj : j < ps.length) : (recC ps vs)[j * 2]? = some (.int .i64 ((ps[j]).1 : Int)) ∧ (recC ps vs)[j * 2 + 1]? = vs[j]? := by
 induction ps generalizing vs j with
 | nil => simp at hj
 | cons p ps ih => cases vs with
  | nil => cases h
  | cons v vs => cases j with
   | zero => exact ⟨rfl, rfl⟩
   | succ j =>
    have := ih vs (by simpa using h) j (by simpa using hj)
    simp only [recC, show (j + 1) * 2 = j * 2 + 1 + 1 by omega, List.getElem?_cons_succ, List.getElem_cons_succ]
    exact this
theorem recC_one (ps : List (Nat × List UInt8)) (vs : List Value) (hv : ∀ v ∈ vs, v.oneCell' = true) : ∀ u ∈ recC ps vs, u.oneCell' = true := by
 induction ps generalizing vs with
 | nil => cases vs <;> (intro u hu; simp [recC] at hu)
 | cons p ps ih => cases vs with
  | nil => intro u hu; simp [recC] at hu
  | cons v vs =>
   intro u hu
   simp only [recC, List.mem_cons] at hu
   rcases hu with rfl | rfl | hu
   ·rfl
   ·exact hv _ (by simp)
   ·exact ih vs (fun v h => hv v (by simp [h])) u hu
structure RowC (w : World) (A : Option Addr) (c : Nat) (F : Nat → Prop) (xs : List Value) : Prop where
 r : Row w A F xs
 fit : xs.length ≤ c ∧ c ≤ maxLen
theorem RowC.keep {w w' : World} {A : Option Addr} {c : Nat} {F : Nat → Prop} {xs : List Value} (h : RowC w A c F xs) (hk : Keeps F w w') : RowC w' A c F xs := ⟨h.r.keep hk, h.fit⟩
theorem RowC.mono {w : World} {A : Option Addr} {c : Nat} {F G : Nat → Prop} {xs : List Value} (h : RowC w A c F xs) (hF : ∀ b, b < w.heap.size → F b → G b) : RowC w A c G xs := ⟨h.r.mono hF, h.fit⟩
theorem RowC.alloc {w : World} {A : Option Addr} {c : Nat} {F : Nat → Prop} {xs : List Value} (h : RowC w A c F xs) (o : Obj) : RowC (w.alloc o) A c F xs := ⟨h.r.alloc o, h.fit⟩
structure RecRow (w : World) (base : Nat) (v : Value) (ps : List (Nat × List UInt8)) : Prop where
 ex : ∃ vs : List Value, vs.length = ps.length ∧ w.ownsRow base 172 2 v ps.length (recC ps vs) ∧ ∀ j (hj : j < ps.length), ∃ B c, vs[j]? = some (.slice B (ps[j]).2.length c) ∧ RowC w B c (fun b => base ≤ b ∧ v.ownBlock ≠ some b) (bcells (ps[j]).2)
section
variable {w w' : World} {base : Nat} {v v' : Value} {ps qs : List (Nat × List UInt8)}
theorem RecRow.nil (w : World) (base : Nat) : RecRow w base (.slice none 0 0) [] := ⟨[], rfl, World.ownsRow_nil _ _ _ _, fun j hj => by simp at hj⟩
theorem RecRow.keep (h : RecRow w base v ps) (hk : Kp w w') : RecRow w' base v ps := by
 obtain ⟨vs, h1, h2, h3⟩ := h.ex
 refine ⟨vs, h1, hk.own h2 fun _ _ => trivial, fun j hj => ?_⟩
 obtain ⟨B, c, e, hr⟩ := h3 j hj
 exact ⟨B, c, e, hr.keep (hk.mono fun _ _ _ => trivial)⟩
theorem RecRow.from {b0 : Nat} (h : RecRow w base v ps) (hb : b0 ≤ base) : RecRow w b0 v ps := by
 obtain ⟨vs, h1, h2, h3⟩ := h.ex
 refine ⟨vs, h1, ownsRow_le h2 hb, fun j hj => ?_⟩
 obtain ⟨B, c, e, hr⟩ := h3 j hj
 exact ⟨B, c, e, hr.mono fun b _ hb' => ⟨Nat.le_trans hb hb'.1, hb'.2⟩⟩
theorem RecRow.put {vs us : List Value} (h1 : vs.length = ps.length) (h2 : w.ownsRow base 172 2 v ps.length (recC ps vs)) (h3 : ∀ j (hj : j < ps.length), ∃ B c, vs[j]? = some (.slice B (ps[j]).2.length c) ∧ RowC w B c (fun b => base ≤ b ∧ v.ownBlock ≠ some b) (bcells (ps[j]).2))
  (hu : us.length = qs.length) (h4 : ∀ j (hj : j < qs.length), ∃ B c, us[j]? = some (.slice B (qs[j]).2.length c) ∧ RowC w B c (fun b => base ≤ b ∧ v.ownBlock ≠ some b) (bcells (qs[j]).2))
  (ho : w'.ownsRow base 172 2 v' (ps.length + qs.length) (recC ps vs ++ recC qs us)) (hg : w.grownBy w' v.ownBlock) (hb : v'.ownBlock = v.ownBlock ∨ v'.ownBlock = some w.heap.size) : RecRow w' base v' (ps ++ qs) := by
 have hk : Keeps (fun b => v.ownBlock ≠ some b) w w' := Keeps.of_grown hg fun b e _ hn => hn e
 have hrow : ∀ (B : Option Addr) (c : Nat) (xs : List Value), RowC w B c (fun b => base ≤ b ∧ v.ownBlock ≠ some b) xs → RowC w' B c (fun b => base ≤ b ∧ v'.ownBlock ≠ some b) xs := fun B c xs hr => ⟨
  ((hr.r.lt).keep (hk.mono fun b _ hb' => hb'.1.2)).mono fun b _ hb' => ⟨hb'.1.1, fun e => by
   rcases hb with e2 | e2
   ·exact hb'.1.2 (by rw [← e2]; exact e)
   ·rw [e2] at e; injection e with e; omega⟩, hr.fit⟩
 refine ⟨vs ++ us, by simp [h1, hu], ?_, fun j hj => ?_⟩
 ·rw [recC_append _ _ _ _ h1, List.length_append]; exact ho
 ·by_cases hlt : j < ps.length
  ·obtain ⟨B, c, e, hr⟩ := h3 j hlt
   refine ⟨B, c, ?_, ?_⟩
   ·rw [List.getElem?_append_left (by omega), e, List.getElem_append_left hlt]
   ·rw [List.getElem_append_left hlt]; exact hrow _ _ _ hr
  ·have hj' : j - ps.length < qs.length := by rw [List.length_append] at hj; omega
   obtain ⟨B, c, e, hr⟩ := h4 (j - ps.length) hj'
   refine ⟨B, c, ?_, ?_⟩
   ·rw [List.getElem?_append_right (by omega), h1, e, List.getElem_append_right (by omega)]
   ·rw [List.getElem_append_right (by omega)]; exact hrow _ _ _ hr
end
theorem src_rec1 (W : World) (y : Nat) (v : Value) (hv1 : v.oneCell' = true) : Src Tryz.prog 2 169 (.slice (some ⟨W.heap.size, 0, none⟩) 1 1) 1 [.int .i64 (y : Int), v] (W.alloc (.cells #[.int .i64 (y : Int), v] 172)) :=
 Src.ofSlice _ Tryz.underlying169 ⟨W.heap.size, 0, none⟩ 1 1 [.int .i64 (y : Int), v] rfl (fun j u hu => by
  rw [WideShapes.add_plain, Nat.zero_add]
  exact (cell_alloc_mark_at W _ _ _ W.heap.size j rfl).trans (by rw [← hu, ← Array.getElem?_toList])) (fun u hu => by
  simp only [List.mem_cons, List.not_mem_nil, or_false] at hu
  rcases hu with rfl | rfl
  ·rfl
  ·exact hv1)
def PB (base : Nat) (l : List UInt8) : World → Value → Prop := fun w v => ∃ A c, v = .slice A l.length c ∧ l.length ≤ c ∧ c ≤ maxLen ∧ Row w A (fun b => base ≤ b) (bcells l)
theorem PB.mono {base : Nat} {l : List UInt8} {w w' : World} {v : Value} (h : Kp w w') (hv : PB base l w v) : PB base l w' v := by
 obtain ⟨A, c, e, h1, h2, hr⟩ := hv
 exact ⟨A, c, e, h1, h2, hr.keep (h.mono fun _ _ _ => trivial)⟩
def PT (base : Nat) (l : List UInt8) : World → Value → Prop := fun w v => ∃ b, v = .tuple #[b, .bool true] ∧ PB base l w b
theorem PT.mono {base : Nat} {l : List UInt8} {w w' : World} {v : Value} (h : Kp w w') (hv : PT base l w v) : PT base l w' v := by
 obtain ⟨b, e, hb⟩ := hv
 exact ⟨b, e, hb.mono h⟩
def VD (g c m : Nat) (u v E : Value) (j z z1 base : Nat) (l : List UInt8) : Nat → World → Value → Prop
 | 0 => IsV (.slice (some ⟨g, 0, none⟩) m c)
 | 1 => IsV (.agg #[u, v, E])
 | 2 => IsV (.int .i64 (j : Int))
 | 3 => IsV (.int .i64 (z : Int))
 | 4 => IsV (.agg #[u, v, E])
 | 5 => IsV (.int .i64 (j : Int))
 | 6 => IsV (.int .i64 ((j : Int) + 1))
 | 7 => IsV (.int .i64 (z1 : Int))
 | 8 => PT base l
 | 9 => PT base l
 | 10 => PB base l
 | 11 => IsV (.bool true)
 | 12 => PB base l
 | 13 => IsV (.bool true)
 | _ => fun _ _ => True
theorem VD_mono {g c m : Nat} {u v E : Value} {j z z1 base : Nat} {l : List UInt8} (i : Nat) (w w' : World) (x : Value) (h : Kp w w') (hv : VD g c m u v E j z z1 base l i w x) : VD g c m u v E j z z1 base l i w' x := by
 match i, hv with
 | 0, hv => exact hv
 | 1, hv => exact hv
 | 2, hv => exact hv
 | 3, hv => exact hv
 | 4, hv => exact hv
 | 5, hv => exact hv
 | 6, hv => exact hv
 | 7, hv => exact hv
 | 8, hv => exact PT.mono h hv
 | 9, hv => exact PT.mono h hv
 | 10, hv => exact PB.mono h hv
 | 11, hv => exact hv
 | 12, hv => exact PB.mono h hv
 | 13, hv => exact hv
 | n + 14, _ => trivial
set_option maxRecDepth 100000 in
set_option maxHeartbeats 4000000 in
theorem bodies_any (w : World) (hT : Taken w) (q p i n : Nat) (hL : LHead w q p i n) (F : Foot) (s : SDev) (hd : DAt w p F s) (sg : Seg) (E : Value) (G : Nat → Prop) (hE : SegV w G sg E) (hok : sg.Ok) (hfull : sg.recs ≠ []) (hon : SegOn s.now i sg)
  (hi : i ≤ 2048) (hsl : sg.slot ≤ 2048) (hf : sg.first ≤ 274877906943) (hin : i + sg.slot * 8 + 8 ≤ s.now.length) :
  Calls Tryz.prog 129 #[.pointer (some ⟨q, 0, none⟩), .agg #[.int .i64 (sg.slot : Int), .int .i64 (sg.first : Int), E]] w fun e w' => ∃ v, e = .returned v ∧ RecRow w' w.heap.size v (sg.recs.map LRec.key) ∧ Kp w w' := by
 have hcnt := hok.count
 have hlen := hok.len
 have hpos : 0 < sg.recs.length := List.length_pos_iff.2 hfull
 have htl : 0 < sg.text.length := by
  have := strm_count sg.recs fun r h => (hok.one r h).1
  unfold Seg.text; omega
 have HOK := Lib.hid hok
 have HEV := Lib.hid hE
 have HSM := Lib.hid (fun (w' : World) (hk : Kp w w') => stream_any w' (hT.keep hk) q p i n (hL.keep hk trivial) F s (hd.keep (hk.mono fun _ _ _ => trivial)) sg.slot sg.first sg.text E hE.one hon.has hon.rest hlen hi hsl hf hin 0 8 (by omega) (by omega))
 have HCT := Lib.hid (fun (w' : World) (hk : Kp w w') => seg_count w' G sg E (.int .i64 (sg.slot : Int)) (.int .i64 (sg.first : Int)) (hE.keep (hk.mono fun _ _ _ => trivial)) rfl rfl)
 have HST := Lib.hid (fun (w' : World) (hk : Kp w w') (k : Nat) (hkl : k ≤ sg.recs.length) => seg_start w' G sg E (.int .i64 (sg.slot : Int)) (.int .i64 (sg.first : Int)) (hE.keep (hk.mono fun _ _ _ => trivial)) rfl rfl (by omega) k hkl)
 have hEone := hE.one
 have hk0 : Kp w (w.alloc (.cells #[.int .i64 (sg.slot : Int), .int .i64 (sg.first : Int), E] 179)) := (Keeps.refl _ w).alloc _
 have HK0 := Lib.hid hk0
 have HB0 := Lib.hid (SBox.new w sg.slot sg.first E)
 have c0 := HB0.out.s
 have c1 := HB0.out.f
 have c2 := HB0.out.e
 obtain ⟨w0, hw0⟩ : ∃ w0, w.alloc (.cells #[.int .i64 (sg.slot : Int), .int .i64 (sg.first : Int), E] 179) = w0 := ⟨_, rfl⟩
 have HW0 := Lib.hid hw0
 rw [hw0] at HK0 HB0
 clear hT hL hd hE hok hon hk0 hin hfull hw0
 go_enter Tryz.func129, Tryz.ntmps129
 go_wp2_with fail
 rw [HW0.out]
 have hs := HSM.out w0 HK0.out
 rw [show (53 * 0 : Nat) = 0 from rfl, List.drop_zero, List.take_of_length_le (show sg.text.length ≤ 53 * (8 - 0) by omega)] at hs
 refine hs.mono ?_
 clear hs c0 c1 c2
 rintro e' w1 ⟨vt, rfl, ho, hk1⟩
 obtain ⟨g, c, rfl, hbase, hglt⟩ := ho.form htl
 have hroom := own_room ho
 have HRT := Lib.hid (own_row ho)
 have HB1 := Lib.hid (HB0.out.keep hk1 trivial)
 have HK1 := Lib.hid (HK0.out.trans hk1)
 have c0 := HB1.out.s
 have c1 := HB1.out.f
 have c2 := HB1.out.e
 clear ho hk1 hbase HB0 HK0
 go_wp2_with fail
 refine (HCT.out w1 HK1.out).mono ?_
 rintro e' w2 ⟨rfl, hk2⟩
 have HRT2 := Lib.hid (HRT.out.keep (hk2.mono fun _ _ _ => trivial))
 have HB2 := Lib.hid (HB1.out.keep hk2 trivial)
 have HK2 := Lib.hid (HK1.out.trans hk2)
 clear hk2 HB1 HK1 HRT c0 c1 c2
 go_wp2_with fail
 have hkl : (sg.recs.map LRec.key).length = sg.recs.length := List.length_map ..
 go_loopw [5, 15] (fun vo vj wr => ∃ (j : Nat) (u : Value), j ≤ sg.recs.length ∧ vj = .int .i64 j ∧ u = vo ∧ RecRow wr w2.heap.size u ((sg.recs.map LRec.key).take j) ∧ Kp w2 wr) (fun _ vj _ => sg.recs.length - (intOf vj).toNat)
 case atStart => exact ⟨0, _, Nat.zero_le _, rfl, rfl, by rw [List.take_zero]; exact RecRow.nil _ _, Keeps.refl _ _⟩
 case round =>
  obtain ⟨j, u, hj, rfl, hu, hrr, hkp⟩ := hrel
  subst hu
  by_cases hlt : j < sg.recs.length
  ·obtain ⟨z, hz⟩ : ∃ z, endAt sg.recs j = z := ⟨_, rfl⟩
   obtain ⟨z1, hz1⟩ : ∃ z1, endAt sg.recs (j + 1) = z1 := ⟨_, rfl⟩
   have hzz : z < z1 := by rw [← hz, ← hz1]; exact endAt_lt _ _ hlt
   have hzl : z1 ≤ sg.text.length := by rw [← hz1]; exact endAt_le _ _
   have HREC := Lib.hid (show (sg.text.drop z).take (z1 - z) = putT (sg.recs[j]).body by rw [← hz, ← hz1]; exact strm_rec sg.recs j hlt)
   have HB3 := Lib.hid (HOK.out.one _ (List.getElem_mem hlt)).2
   have HPO := Lib.hid (HOK.out.pos j hlt)
   have HZ := Lib.hid hz
   have HZ1 := Lib.hid hz1
   have HRR := Lib.hid hrr
   have HK := Lib.hid hkp
   have HTK := Lib.hid (show (sg.recs.map LRec.key).take (j + 1) = (sg.recs.map LRec.key).take j ++ [(sg.first + j, (sg.recs[j]).body)] from by
    rw [take_next _ _ (by rw [hkl]; exact hlt), List.getElem_map]
    unfold LRec.key
    rw [HPO.out])
   have hjl : ((sg.recs.map LRec.key).take j).length = j := by rw [List.length_take, hkl]; omega
   generalize (sg.recs[j]).body = y at HREC HB3 HTK
   have hj300 : j ≤ 300 := by omega
   clear hz hz1 hrr hkp
   go_wp2_with fail
   refine wp_region_guard (R := Kp) (V := VD g c sg.text.length (.int .i64 (sg.slot : Int)) (.int .i64 (sg.first : Int)) E j z z1 wr.heap.size y) (w0 := wr) GE (by kernel_rfl) (fun w => Keeps.refl _ w) (fun _ _ _ h k => h.trans k) (fun i w w' v h hv => VD_mono i w w' v h hv) (by kernel_rfl) GE_is (fun i o ho hw => (all_wanted (by kernel_rfl) ho hw).elim) ((Keeps.refl _ wr).drew) (each_of ?_) ?_
   ·refine ⟨?_, ?_, ?_, ?_, ?_, ?_, ?_, ?_, ?_, ?_, ?_, ?_, ?_, ?_, trivial⟩ <;> intro hw a1 w3 L
    ·exact kp_move rfl (L.old 6 (by kernel_rfl))
    ·have hb := HB2.out.keep (HK.out.trans L.rel) trivial
     exact kp_lG hb.s hb.f hb.e rfl (L.old 3 (by kernel_rfl))
    ·exact kp_move rfl (L.old 7 (by kernel_rfl))
    ·have e0 : a1.eval (.tmp 20) = .agg #[.int .i64 (sg.slot : Int), .int .i64 (sg.first : Int), E] := L.val 1 20 (by kernel_rfl) (by kernel_rfl)
     have e1 : a1.eval (.tmp 21) = .int .i64 (j : Int) := L.val 2 21 (by kernel_rfl) (by kernel_rfl)
     have hf : a1.eval (.func 149) = .func (.func 149) #[] #[] := rfl
     refine kp_enter (f := 149) (args := #[.agg #[.int .i64 (sg.slot : Int), .int .i64 (sg.first : Int), E], .int .i64 (j : Int)]) ?_ (HST.out w3 (HK2.out.trans (HK.out.trans L.rel)) j hj) ?_
     ·clear L
      generalize a1.eval = ρ at e0 e1 hf ⊢
      unfold execOp
      go_simp
     ·rintro e w' ⟨rfl, hk⟩
      exact ⟨_, rfl, hk, by rw [HZ.out]; rfl⟩
    ·have hb := HB2.out.keep (HK.out.trans L.rel) trivial
     exact kp_lG hb.s hb.f hb.e rfl (L.old 3 (by kernel_rfl))
    ·exact kp_move rfl (L.old 7 (by kernel_rfl))
    ·have e0 : a1.eval (.tmp 24) = .int .i64 (j : Int) := L.val 5 24 (by kernel_rfl) (by kernel_rfl)
     have hcn : a1.eval (.const (.int .i64 1)) = .int .i64 1 := rfl
     have hw1 : IntKind.i64.wrap ((j : Int) + 1) = (j : Int) + 1 := by rw [IntKind.wrap_i64]; omega
     refine kp_yield (v := .int .i64 ((j : Int) + 1)) (w' := w3) ?_ (Keeps.refl _ _) rfl
     clear L
     generalize a1.eval = ρ at e0 hcn ⊢
     unfold execOp
     go_simp
    ·have e0 : a1.eval (.tmp 23) = .agg #[.int .i64 (sg.slot : Int), .int .i64 (sg.first : Int), E] := L.val 4 23 (by kernel_rfl) (by kernel_rfl)
     have e1 : a1.eval (.tmp 25) = .int .i64 ((j : Int) + 1) := L.val 6 25 (by kernel_rfl) (by kernel_rfl)
     have hf : a1.eval (.func 149) = .func (.func 149) #[] #[] := rfl
     have hc := HST.out w3 (HK2.out.trans (HK.out.trans L.rel)) (j + 1) hlt
     rw [show ((j + 1 : Nat) : Int) = (j : Int) + 1 by omega] at hc
     refine kp_enter (f := 149) (args := #[.agg #[.int .i64 (sg.slot : Int), .int .i64 (sg.first : Int), E], .int .i64 ((j : Int) + 1)]) ?_ hc ?_
     ·clear L hc
      generalize a1.eval = ρ at e0 e1 hf ⊢
      unfold execOp
      go_simp
     ·rintro e w' ⟨rfl, hk⟩
      exact ⟨_, rfl, hk, by rw [HZ1.out]; rfl⟩
    ·have e0 : a1.eval (.tmp 19) = .slice (some ⟨g, 0, none⟩) sg.text.length c := L.val 0 19 (by kernel_rfl) (by kernel_rfl)
     have e1 : a1.eval (.tmp 22) = .int .i64 (z : Int) := L.val 3 22 (by kernel_rfl) (by kernel_rfl)
     have e2 : a1.eval (.tmp 26) = .int .i64 (z1 : Int) := L.val 7 26 (by kernel_rfl) (by kernel_rfl)
     have hf : a1.eval (.func 150) = .func (.func 150) #[] #[] := rfl
     have hrel := L.rel
     refine kp_enter (f := 150) (args := #[.slice (some ⟨g, 0, none⟩) sg.text.length c, .int .i64 (z : Int), .int .i64 (z1 : Int)]) ?_ (cut_any w3 g 0 c _ z z1 _ sg.text y (HRT2.out.keep ((HK.out.trans L.rel).mono fun _ _ _ => trivial)) rfl hroom.1 hroom.2 hzz hzl HREC.out HB3.out) ?_
     ·clear L
      generalize a1.eval = ρ at e0 e1 e2 hf ⊢
      unfold execOp
      go_simp
     ·rintro e w' ⟨b, rfl, ⟨A, cc, e, h1, h2, hr, -⟩, hk⟩
      exact ⟨_, rfl, hk, b, rfl, A, cc, e, h1, h2, hr.mono fun b _ hb => Nat.le_trans hrel.size hb.1⟩
    ·exact kp_mvP rfl (L.val 8 27 (by kernel_rfl) (by kernel_rfl))
    ·obtain ⟨b, e0, hb⟩ := L.val 9 18 (by kernel_rfl) (by kernel_rfl)
     refine kp_yield (v := b) (w' := w3) ?_ (Keeps.refl _ _) hb
     clear L hb
     generalize a1.eval = ρ at e0 ⊢
     unfold execOp
     go_simp
    ·obtain ⟨b, e0, hb⟩ := L.val 9 18 (by kernel_rfl) (by kernel_rfl)
     refine kp_yield (v := .bool true) (w' := w3) ?_ (Keeps.refl _ _) rfl
     clear L hb
     generalize a1.eval = ρ at e0 ⊢
     unfold execOp
     go_simp
    ·exact kp_asP rfl (L.val 10 28 (by kernel_rfl) (by kernel_rfl))
    ·exact kp_assign rfl (L.val 11 29 (by kernel_rfl) (by kernel_rfl))
   ·intro vs w4 hk4 hlen4 hv
    match vs, hlen4 with
    | [v0, v1, v2, v3, v4, v5, v6, v7, v8, v9, v10, v11, v12, v13], _ =>
     obtain ⟨A, cA, e12, hl1, hl2, hr12⟩ : PB wr.heap.size y w4 v12 := hv 12 8 (by kernel_rfl)
     have e13 : v13 = .bool true := hv 13 9 (by kernel_rfl)
     clear hv
     subst e12 e13
     simp only [putAll, List.map, Act.put, List.setIfInBounds_toArray, List.set_cons_succ, List.set_cons_zero, Exit.then]
     have hb4 := HB2.out.keep (HK.out.trans hk4) trivial
     have c1 := hb4.f
     have HRR4 := Lib.hid (HRR.out.keep hk4)
     have HK4 := Lib.hid (HK.out.trans hk4)
     have HRB := Lib.hid hr12
     have HFIT := Lib.hid (show (bcells y).length ≤ cA ∧ cA ≤ maxLen from ⟨by rw [bcells_len]; exact hl1, hl2⟩)
     have hz4 := HK4.out.size
     obtain ⟨vs0, hv1, hv2, hv3⟩ := HRR4.out.ex
     have HV1 := Lib.hid hv1
     have HV2 := Lib.hid hv2
     have HV3 := Lib.hid hv3
     have hz44 := hk4.size
     have hz2r := HK.out.size
     have hown2 : ∀ b, u.ownBlock = some b → b < wr.heap.size := fun b hb => by
      obtain ⟨vs1, q1, q2, q3⟩ := HRR.out.ex
      exact (q2.lt b hb).2
     have HOB := Lib.hid hown2
     rw [hjl] at HV2
     have hsr := Lib.hid (fun W : World => src_rec1 W (sg.first + j) (.slice A y.length cA) rfl)
     have hpe : ((sg.first + j : Nat) : Int) = (sg.first : Int) + (j : Int) := by omega
     rw [hpe] at hsr
     have hcz : w2.heap.size ≤ (w4.alloc (.cells #[.int .i64 ((sg.first : Int) + (j : Int)), .slice A y.length cA] 172)).heap.size := by simp; omega
     clear hb4 hk4 hv1 hv2 hv3 hr12 HRR HK hown2
     go_wp2_with (at_builtin; refine rec_elem.list_append rfl (.tmp 31) (.tmp 38) _ rfl rfl (HV2.out.alloc _) rfl (hsr.out w4) ?c3 ?c4 hcz ?_)
     case c3 => unfold maxLen; omega
     case c4 => omega
     intro v5 w5 ho5 hg5 hb5
     have hown4 := HV2.out
     have hg5' := grown_of_alloc hg5
     have hb5' : v5.ownBlock = u.ownBlock ∨ v5.ownBlock = some (w4.alloc (.cells #[.int .i64 ((sg.first : Int) + (j : Int)), .slice A y.length cA] 172)).heap.size := by rw [World.size_alloc]; exact hb5
     have HR5 := Lib.hid (show RecRow w5 w2.heap.size v5 ((sg.recs.map LRec.key).take (j + 1)) from by
      rw [HTK.out]
      refine RecRow.put (w := w4.alloc (.cells #[.int .i64 ((sg.first : Int) + (j : Int)), .slice A y.length cA] 172)) (v := u) (vs := vs0) (us := [.slice A y.length cA]) HV1.out (by rw [hjl]; exact HV2.out.alloc _) (fun k hk => ?_) rfl (fun k hk => ?_) ?_ hg5 hb5'
      ·obtain ⟨B, cc, e, hr⟩ := HV3.out k hk
       exact ⟨B, cc, e, hr.alloc _⟩
      ·obtain rfl : k = 0 := by simpa using hk
       exact ⟨A, cA, rfl, ⟨(HRB.out.alloc _).mono fun b _ hb => ⟨by omega, fun e => by have := HOB.out b e; omega⟩, HFIT.out⟩⟩
      ·rw [hjl]
       have e : recC [(sg.first + j, y)] [.slice A y.length cA] = [.int .i64 ((sg.first : Int) + (j : Int)), .slice A y.length cA] := by
        simp only [recC]; rw [hpe]
       rw [e]
       exact ho5)
     have HK5 := Lib.hid (show Kp w2 w5 from HK4.out.grown hg5' fun b hb => (hown4.lt b hb).1)
     clear ho5 hg5 hb5 hg5' hb5' hown4 HV1 HV2 HV3 HRR4 HK4
     go_wp2_with fail
     go_roundw
     case rel => exact ⟨j + 1, _, by omega, by go_num, rfl, HR5.out, HK5.out⟩
     case measure => simp [intOf]; omega
  ·obtain rfl : j = sg.recs.length := by omega
   rw [List.take_of_length_le (by rw [hkl]; exact Nat.le_refl _)] at hrr
   have H1 := Lib.hid (hrr.from (b0 := w.heap.size) HK2.out.size)
   have H2 := Lib.hid (HK2.out.trans hkp)
   clear hrr hkp
   go_wp2_with fail
   go_ret
   exact ⟨_, rfl, H1.out, H2.out⟩
end Go.Proofs.YticophaepapjoaaGreatDoor
