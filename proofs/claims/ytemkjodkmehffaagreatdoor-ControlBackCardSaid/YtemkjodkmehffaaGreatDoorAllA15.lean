/-
  CkIf, CkTick, CkMade, InvMem: texts of mine, joined.
-/
import Derived.Test.YtemkjodkmehffaaGreatDoorProg
import Derived.Test.YtemkjodkmehffaaGreatDoorAllA00
import Derived.Test.YtemkjodkmehffaaGreatDoorAllA03
import Derived.WalkSpells
import Derived.Lib.Hide
import Derived.Lib.SmallJoins
import Derived.OpenShut
namespace Go.Proofs.YtemkjodkmehffaaGreatDoor
open Go Go.RowKit Go.Joins
def tickZ (now n : Int) : Int := if n < 0 ∨ 1099511627776 - now < n then now else now + n
def ticks (now : Int) (l : List Int) : Int := if l = [] then tickZ now 1 else l.foldl tickZ now
theorem tickZ_rng {now : Int} (h0 : 0 ≤ now) (h1 : now ≤ 1099511627776) (n : Int) : 0 ≤ tickZ now n ∧ tickZ now n ≤ 1099511627776 := by
 unfold tickZ
 split <;> omega
theorem fold_rng (l : List Int) {now : Int} (h0 : 0 ≤ now) (h1 : now ≤ 1099511627776) : 0 ≤ l.foldl tickZ now ∧ l.foldl tickZ now ≤ 1099511627776 := by
 induction l generalizing now with
 | nil => exact ⟨h0, h1⟩
 | cons x l ih =>
  obtain ⟨h2, h3⟩ := tickZ_rng h0 h1 x
  exact ih h2 h3
theorem fold_next (l : List Int) (now : Int) (k : Nat) (h : k < l.length) : (l.take (k + 1)).foldl tickZ now = tickZ ((l.take k).foldl tickZ now) l[k] := by
 rw [List.take_succ_eq_append_getElem h, List.foldl_append]; rfl
theorem cints_new (w : World) (l : List Int) (C : Array Value) (hC : C.toList = l.map (Value.int .i64)) : Row (w.alloc (.cells C 2)) (some ⟨w.heap.size, 0, none⟩) (fun b => b = w.heap.size) (l.map (Value.int .i64)) :=
 Row.fresh (F := fun b => b = w.heap.size) w C 2 (0, 0) _ rfl rfl _ hC
theorem tick_by {n x : Int} (h0 : 0 ≤ x) (h1 : n + x ≤ 1099511627776) : tickZ n x = n + x := by
 unfold tickZ
 rw [if_neg (by omega)]
end Go.Proofs.YtemkjodkmehffaaGreatDoor
namespace Go.Proofs.YtemkjodkmehffaaGreatDoor
open Go Go.RowKit Go.Joins Go.ChangeShapes Go.WideShapes Go.ChangeAt
def CkBlk (w : World) (c : Nat) (n : Int) : Prop := w.heap[c]? = some (.cells #[.int .i64 n] 24 (0, 0))
section
variable {w w' : World} {c : Nat} {n : Int} {G : Nat → Prop}
theorem CkBlk.lt (h : CkBlk w c n) : c < w.heap.size := (Array.getElem?_eq_some_iff.1 h).1
theorem CkBlk.keep (h : CkBlk w c n) (hk : Keeps G w w') (hG : G c) : CkBlk w' c n := (hk.block c hG h.lt).trans h
theorem CkBlk.c0 (h : CkBlk w c n) : w.cell? ⟨c, 0, none⟩ = some (.int .i64 n) := cell_of_block h 0
theorem CkBlk.fz (h : CkBlk w c n) : w.frozen? ⟨c, 0, none⟩ = false := unfrozen_of_block h 0
theorem CkBlk.set (h : CkBlk w c n) (x : Int) : CkBlk (w.setCell ⟨c, 0, none⟩ (.int .i64 x)) c x := (block_setCell h _).trans rfl
end
theorem goOn_any (w : World) (c : Nat) (n x : Int) (h : CkBlk w c n) (h0 : 0 ≤ n) (h1 : n ≤ 1099511627776) :
  Calls Tryz.prog 33 #[.pointer (some ⟨c, 0, none⟩), .int .i64 x] w fun e w' => e = .returned (.tuple #[]) ∧ CkBlk w' c (tickZ n x) ∧ Keeps (fun b => b ≠ c) w w' := by
 have c0 := h.c0
 have f0 := h.fz
 have HB := Lib.hid h
 have HS := Lib.hid (show ∀ v, Keeps (fun b => b ≠ c) w (w.setCell ⟨c, 0, none⟩ v) from fun v => (Keeps.refl _ _).setCell (.inr (fun h => h rfl)) v)
 clear h
 have hcs : (decide (0 ≤ x) = true ∧ decide (x ≤ 1099511627776 - n) = true) ∨ (decide (0 ≤ x) = true ∧ decide (x ≤ 1099511627776 - n) = false) ∨ decide (0 ≤ x) = false := by
  cases decide (0 ≤ x) <;> cases decide (x ≤ 1099511627776 - n) <;> simp
 rcases hcs with ⟨t1, t2⟩ | ⟨t1, t2⟩ | t1
 ·have g1 : 0 ≤ x := by simpa using t1
  have g2 : x ≤ 1099511627776 - n := by simpa using t2
  have HE := Lib.hid (show tickZ n x = n + x from by unfold tickZ; rw [if_neg (by omega)])
  go_enter Tryz.func33, Tryz.ntmps33
  go_wp2_with fail
  go_end0
  exact ⟨rfl, by rw [HE.out]; exact HB.out.set _, HS.out _⟩
 ·have g2 : ¬ x ≤ 1099511627776 - n := by simpa using t2
  have HE := Lib.hid (show tickZ n x = n from by unfold tickZ; rw [if_pos (by omega)])
  go_enter Tryz.func33, Tryz.ntmps33
  go_wp2_with fail
  go_end0
  exact ⟨rfl, by rw [HE.out]; exact HB.out, Keeps.refl _ _⟩
 ·have g1 : ¬ 0 ≤ x := by simpa using t1
  have HE := Lib.hid (show tickZ n x = n from by unfold tickZ; rw [if_pos (by omega)])
  go_enter Tryz.func33, Tryz.ntmps33
  go_wp2_with fail
  go_end0
  exact ⟨rfl, by rw [HE.out]; exact HB.out, Keeps.refl _ _⟩
theorem cnow_any (w : World) (c : Nat) (n : Int) (h : CkBlk w c n) :
  Calls Tryz.prog 41 #[.pointer (some ⟨c, 0, none⟩)] w fun e w' => e = .returned (.int .i64 n) ∧ w = w' := by
 have c0 := h.c0
 clear h
 go_enter Tryz.func41, Tryz.ntmps41
 go_wp2_with fail
 go_ret
 exact ⟨rfl, rfl⟩
theorem cnow_nil (w : World) :
  Calls Tryz.prog 41 #[.pointer none] w fun e w' => e = .returned (.int .i64 0) ∧ w = w' := by
 go_enter Tryz.func41, Tryz.ntmps41
 go_wp2_with fail
 go_ret
 exact ⟨rfl, rfl⟩
set_option maxHeartbeats 1000000 in
theorem ctick_any (w : World) (c : Nat) (n : Int) (A : Option Addr) (cap : Nat) (l : List Int) (h : CkBlk w c n) (h0 : 0 ≤ n) (h1 : n ≤ 1099511627776) (hr : Row w A (fun b => b ≠ c) (l.map (Value.int .i64))) (hl : l.length ≤ cap) (hc : cap ≤ maxLen) :
  Calls Tryz.prog 12 #[.pointer (some ⟨c, 0, none⟩), .slice A l.length cap] w fun e w' => e = .returned (.int .i64 (ticks n l)) ∧ CkBlk w' c (ticks n l) ∧ Keeps (fun b => b ≠ c) w w' := by
 obtain ⟨N, hN⟩ : ∃ N, l.length = N := ⟨_, rfl⟩
 have HN := Lib.hid hN
 have hNm : N ≤ 9223372036854775807 := by unfold maxLen at hc; omega
 have HR := Lib.hid hr
 have HB := Lib.hid h
 have H1 := Lib.hid (goOn_any w c n 1 h h0 h1)
 rw [hN]
 clear hr h hl hc
 cases hz : decide (N = 0) with
 | true =>
  have hN0 : N = 0 := by simpa using hz
  subst hN0
  have HE := Lib.hid (show ticks n l = tickZ n 1 from by rw [List.eq_nil_of_length_eq_zero hN]; rfl)
  clear hN hz HN
  go_enter Tryz.func12, Tryz.ntmps12
  go_wp2_with fail
  refine (show Calls _ _ _ _ _ from H1.out).mono ?_
  rintro e w1 ⟨rfl, hb1, hk1⟩
  have HB1 := Lib.hid hb1
  have HK1 := Lib.hid hk1
  clear hb1 hk1
  go_wp2_with fail
  go_loopw [16] (fun i wr => i = .int .i64 0 ∧ wr = w1) (fun _ _ => 0)
  case atStart => exact ⟨rfl, rfl⟩
  case round =>
   obtain ⟨rfl, rfl⟩ := hrel
   have c0 := HB1.out.c0
   go_wp2_with fail
   go_ret
   exact ⟨by rw [HE.out]; rfl, by rw [HE.out]; exact HB1.out, HK1.out⟩
 | false =>
  have hN0 : ¬ N = 0 := by simpa using hz
  have hNi : ((N : Int) == 0) = false := by simp; omega
  have HE := Lib.hid (show ticks n l = (l.take N).foldl tickZ n from by
   unfold ticks
   rw [if_neg (by rintro rfl; exact hN0 hN.symm), ← hN, List.take_length])
  clear hN hz
  go_enter Tryz.func12, Tryz.ntmps12
  go_wp2_with fail
  go_loopw [16] (fun i wr => ∃ k : Nat, k ≤ N ∧ i = .int .i64 (k : Int) ∧ Hid (CkBlk wr c ((l.take k).foldl tickZ n)) ∧ Hid (Keeps (fun b => b ≠ c) w wr)) (fun i _ => N - (intOf i).toNat)
  case atStart => exact ⟨0, Nat.zero_le _, rfl, Lib.hid HB.out, Lib.hid (Keeps.refl _ _)⟩
  case round =>
   clear H1
   obtain ⟨k, hk, rfl, HBk, HK⟩ := hrel
   by_cases hkN : k < N
   ·have hkI : (k : Int) < (N : Int) := by omega
    have hkl : k < l.length := by rw [HN.out]; exact hkN
    obtain ⟨b, o, rfl, -, hcell⟩ := (HR.out.keep HK.out).at_ (k := k) (by rw [List.length_map]; exact hkl)
    rw [List.getElem_map] at hcell
    have hrg := fold_rng (l.take k) h0 h1
    have HX := Lib.hid (fold_next l n k hkl)
    have HG := Lib.hid (goOn_any wr c _ l[k] HBk.out hrg.1 hrg.2)
    generalize l[k] = x at hcell HX HG
    generalize (l.take k).foldl tickZ n = m at HX HG HBk
    clear hrg hkl
    go_wp2_with fail
    refine (show Calls _ _ _ _ _ from HG.out).mono ?_
    rintro e w1 ⟨rfl, hb1, hk1⟩
    have HB1 := Lib.hid hb1
    have HK1 := Lib.hid (HK.out.trans hk1)
    clear hb1 hk1
    go_wp2_with fail
    rw [← HX.out] at HB1
    go_roundw
    case rel => exact ⟨k + 1, by omega, by go_num, HB1, HK1⟩
    case measure => simp [intOf]; omega
   ·obtain rfl : k = N := by omega
    have hkI : ¬ (k : Int) < (k : Int) := by omega
    have c0 := HBk.out.c0
    rw [← HE.out] at c0 HBk
    clear hk hkN
    go_wp2_with fail
    go_ret
    exact ⟨rfl, HBk.out, HK.out⟩
end Go.Proofs.YtemkjodkmehffaaGreatDoor
namespace Go.Proofs.YtemkjodkmehffaaGreatDoor
open Go Go.RowKit
section
variable {P : Program} {ops : Array Oper} {Q : Exit → Act → World → Prop} {a0 : Act} {w0 : World}
theorem putAll_same : ∀ (ds : List (Option Tmp)) (a : Act) (vs us : List Value), vs.length = ds.length → us.length = ds.length → (∀ i d, ds[i]? = some (some d) → vs.getD i undef = us.getD i undef) → putAll a ds vs = putAll a ds us
 | [], _, vs, us, _, _, _ => by cases vs <;> cases us <;> rfl
 | d :: ds, a, [], _, h, _, _ => by simp at h
 | d :: ds, a, _ :: _, [], _, h, _ => by simp at h
 | d :: ds, a, v :: vs, u :: us, h1, h2, h3 => by
  have ih := fun a => putAll_same ds a vs us (by simpa using h1) (by simpa using h2) fun i d hd => by simpa using h3 (i + 1) d (by simpa using hd)
  cases d with
  | none => exact ih _
  | some d =>
   have e : v = u := by simpa using h3 0 d rfl
   subst e
   exact ih _
theorem wp_region_mem {id : Nat} {w : World} (vals : List Value) (ks : List Nat) (M : (Nat → Bool) → World → Prop) (G : Nat → Option Bool) (hm : P.follows .mixedOrders = true) (hlen : vals.length = ops.size)
  (hM : ∀ f g w, (∀ k, ks.contains k = true → f k = g k) → M f w → M g w) (hS : ∀ f w w', Kp w w' → M f w → M f w')
  (hfit : fitsG G ops a0.tmps.size = true) (hks : (ks.all fun k => decide (k < ops.size)) = true) (hG : ∀ g c, G g = some c → vals.getD g undef = .bool c)
  (hU : ∀ (i : Nat) (o : Oper), ops[i]? = some o → wantsG G o = false → ks.contains i = false ∧ vals.getD i undef = undef) (hw : M (fun _ => false) w.drew)
  (loc : ∀ (i : Nat) (o : Oper), ops[i]? = some o → wantsG G o = true → ∀ a w, Leans (fun _ _ => True) (fun j => IsV (vals.getD j undef)) ops a0 w0 i a w → ∀ f, M f w → f i = false → (∀ k js, chained ops k i js = true → f k = true) → (∀ k js, chained ops i k js = true → f k = false) →
   if ks.contains i = true then o.wp P a w (fun a' w' => ∃ v, a' = a.put o.dst v ∧ M (fun k => if k = i then true else f k) w' ∧ IsV (vals.getD i undef) w' v) Q
   else o.wp P a w (fun a' w' => ∃ v, a' = a.put o.dst v ∧ Kp w w' ∧ IsV (vals.getD i undef) w' v) Q)
  (done : ∀ w, M (fun _ => true) w → Q .normal (putAll a0 (ops.toList.map (·.dst)) vals) w) :
  (Code.region id ops true).wp P Q a0 w := by
 have look : ∀ (i : Nat) (o : Oper), ops[i]? = some o → (∀ g b, o.guard = some (g, b) → waits ops i g = true ∧ (dstOf ops g).isSome = true ∧ ((G g).isSome = true ∨ ∃ o', ops[g]? = some o' ∧ wantsG G o' = false)) ∧ (∀ e ∈ o.after, Region.binds .any e = true → e.on < i) ∧ (∀ d, o.dst = some d → d < a0.tmps.size) ∧ (∀ j, i ≠ j → ∀ d, o.dst = some d → dstOf ops j ≠ some d) := by
  intro i o ho
  have hi : i < ops.size := (Array.getElem?_eq_some_iff.1 ho).1
  have h := List.all_eq_true.1 hfit i (List.mem_range.2 hi)
  simp only [ho, Option.all_some, Bool.and_eq_true] at h
  obtain ⟨⟨⟨h1, h2⟩, h3⟩, h4⟩ := h
  refine ⟨fun g b hgb => ?_, fun e he hb => ?_, fun d hd => ?_, fun j hj d hd hx => ?_⟩
  ·rw [hgb] at h1
   simp only [Bool.and_eq_true, Bool.or_eq_true] at h1
   refine ⟨h1.1.1, h1.1.2, h1.2.imp (fun hx => hx) fun hx => ?_⟩
   cases ho' : ops[g]? with
   | none => rw [ho'] at hx; cases hx
   | some o' =>
    rw [ho'] at hx
    exact ⟨o', rfl, by simpa using hx⟩
  ·have := Array.all_eq_true_iff_forall_mem.1 h2 e he
   simpa [hb] using this
  ·rw [hd] at h3; simpa using h3
  ·have hjs : j < ops.size := by
    rcases Nat.lt_or_ge j ops.size with h' | h'
    ·exact h'
    ·simp [dstOf, Array.getElem?_eq_none h'] at hx
   have := List.all_eq_true.1 h4 j (List.mem_range.2 hjs)
   rw [hd, hx] at this
   simp [hj] at this
 have some_of : ∀ i d, dstOf ops i = some d → ∃ o, ops[i]? = some o ∧ o.dst = some d := fun i d h => by
  unfold dstOf at h
  cases ho : ops[i]? with
  | none => simp [ho] at h
  | some o => exact ⟨o, rfl, by simpa [ho] using h⟩
 have hd : ∀ i j d, dstOf ops i = some d → dstOf ops j = some d → i = j := by
  intro i j d hi hj
  obtain ⟨o, ho, hd⟩ := some_of i d hi
  exact Classical.byContradiction fun hne => (look i o ho).2.2.2 j hne d hd hj
 have hb : ∀ i d, dstOf ops i = some d → d < a0.tmps.size := by
  intro i d hi
  obtain ⟨o, ho, hd⟩ := some_of i d hi
  exact (look i o ho).2.2.1 d hd
 have hac : ∀ i j, waits ops i j = true → j < i := by
  intro i j h
  obtain ⟨o, ho, e, he, hb, rfl⟩ := (waits_iff i j).1 h
  exact (look i o ho).2.1 e he hb
 have hkm : ∀ k, ks.contains k = true → k < ops.size := fun k hk => by
  have := List.all_eq_true.1 hks k (by simpa using hk)
  simpa using this
 have hVU : ∀ (i : Nat) (o : Oper), ops[i]? = some o → wantsG G o = false → (fun j => IsV (vals.getD j undef)) i = IsV undef := fun i o ho hw => by
  show IsV (vals.getD i undef) = _
  rw [(hU i o ho hw).2]
 have fin : ∀ (l : Array Bool) (a : Act) (w' : World), (∀ i, i < ops.size → l.getD i false = true) → StandsAt (fun _ _ => True) (fun j => IsV (vals.getD j undef)) ops a0 w0 l a w' → M (fun k => l.getD k false) w' → Q .normal a w' := by
  intro l a w' hall h hs
  have hq := done w' (hM _ _ _ (fun k hk => hall k (hkm k hk)) hs)
  have e : putAll a0 (ops.toList.map (·.dst)) vals = putAll a0 (ops.toList.map (·.dst)) ((ops.toList.map (·.dst)).map (slotOf a)) := by
   refine putAll_same _ _ _ _ (by simp [hlen]) (by simp) fun i d hid => ?_
   rw [List.getElem?_map, Array.getElem?_toList] at hid
   cases ho : ops[i]? with
   | none => rw [ho] at hid; cases hid
   | some o =>
    rw [ho] at hid
    have hod : o.dst = some d := by simpa using hid
    have hi : i < ops.size := (Array.getElem?_eq_some_iff.1 ho).1
    have hdo : dstOf ops i = some d := by simp [dstOf, ho, hod]
    have hv : a.tmps.getD d undef = vals.getD i undef := h.val i d (hall i hi) hdo
    rw [← hv, List.getD_eq_getElem?_getD, List.getElem?_map, List.getElem?_map, Array.getElem?_toList, ho]
    simp [hod, slotOf]
  rw [e, ← putAll_of a _ a0 h.defers h.tmps ?_ ?_] at hq
  ·exact hq
  ·intro d hd
   obtain ⟨o, ho, hod⟩ := List.mem_map.1 hd
   obtain ⟨i, hi, rfl⟩ := List.getElem_of_mem ho
   exact (look i ops[i] (by simp at hi; simp [hi])).2.2.1 d (by simpa using hod)
  ·intro t ht
   refine h.old t fun i _ hid => ht ?_
   obtain ⟨o, ho, hd⟩ := some_of i t hid
   refine List.mem_map.2 ⟨o, ?_, hd⟩
   rw [← Array.mem_def]
   exact Array.mem_of_getElem? ho
 have go : ∀ (fuel : Nat) (l : Array Bool) (a : Act) (w : World), (leftOver ops.size l).length ≤ fuel → StandsAt (fun _ _ => True) (fun j => IsV (vals.getD j undef)) ops a0 w0 l a w → M (fun k => l.getD k false) w → wpAny P .any ops Q fuel l a w := by
  intro fuel
  induction fuel with
  | zero =>
   intro l a w hf h hs
   have hn : leftOver ops.size l = [] := List.eq_nil_of_length_eq_zero (by omega)
   have hnot : ∀ i, i < ops.size → l.getD i false = true := fun i hi => by
    have hm : i ∉ leftOver ops.size l := by rw [hn]; simp
    have hl' : i < l.size := by rw [h.size]; exact hi
    unfold leftOver at hm
    simp only [List.mem_filter, List.mem_range, hi, true_and, Array.getD, hl'] at hm ⊢
    simpa using hm
   refine ⟨?_, fin l a w hnot h hs⟩
   refine List.eq_nil_iff_forall_not_mem.2 fun i hi => ?_
   have hm := (mem_ready.1 hi).1
   have hx := getD_false_of hm
   rw [hnot i (by rw [← h.size]; exact hx.2)] at hx
   exact absurd hx.1 (by simp)
  | succ fuel ih =>
   intro l a w hf h hs
   refine ⟨fun hr => fin l a w (all_listed hac h.size hr) h hs, fun i hi => ?_⟩
   obtain ⟨hl, o, ho, hall⟩ := mem_ready.1 hi
   have hwt : ∀ j, waits ops i j = true → l.getD j false = true := fun j hj => by
    obtain ⟨o', ho', e, he, hb', rfl⟩ := (waits_iff i j).1 hj
    rw [ho] at ho'; cases ho'
    exact hall e he hb'
   have hdst : o.dst = dstOf ops i := by simp [dstOf, ho]
   have hleft : (leftOver ops.size (l.setIfInBounds i true)).length ≤ fuel := by
    have := leftOver_set ops.size l i (by rw [← h.size]; exact (getD_false_of hl).2) hl
    omega
   have hwant := wanted_is (h.leans hl hwt) (fun j d hj => by rw [h.tmps]; exact hb j d hj) (look i o ho).1 (fun g c hg w v hv => (show v = vals.getD g undef from hv).trans (hG g c hg)) hVU
   have hset : ∀ k, i ≠ k → (l.setIfInBounds i true).getD k false = l.getD k false := fun k hne => getD_set_ne false hne
   have hself : (l.setIfInBounds i true).getD i false = true := by simp [(getD_false_of hl).2]
   have hloc := loc i o ho
   unfold wpOp
   cases hwo : wantsG G o
   ·rw [hwo] at hwant
    obtain ⟨hne, hu⟩ := hU i o ho hwo
    simp only [ho, hwant, Bool.false_eq_true, if_false]
    rw [hdst]
    refine ih _ _ _ hleft (h.step' trivial (fun _ => trivial) hd hb hl (fun _ _ _ hh => hh) hwt (by rw [hu]; rfl)) (hM _ _ _ (fun k hk => (hset k fun e => ?_).symm) hs)
    subst e
    rw [hne] at hk; cases hk
   ·rw [hwo] at hwant
    simp only [ho, hwant, if_true]
    have hlc := hloc hwo a w (h.leans hl hwt) (fun k => l.getD k false) hs (getD_false_of hl).1 (fun k js hbh => chained_listed h js i hwt hbh) (fun k js hbh => by
     cases hx : l.getD k false with
     | false => rfl
     | true =>
      have := chained_listed h js k (fun j hj => h.down k j hx hj) hbh
      rw [(getD_false_of hl).1] at this; cases this)
    cases hc : ks.contains i with
    | true =>
     rw [if_pos hc] at hlc
     refine .inl (Oper.wp_mono (fun a' w' hk' => ?_) hlc)
     obtain ⟨v, rfl, hr, hv⟩ := hk'
     rw [hdst]
     refine ih _ _ _ hleft (h.step' trivial (fun _ => trivial) hd hb hl (fun j u _ hu => hu) hwt hv) (hM _ _ _ (fun k _ => ?_) hr)
     by_cases e : k = i
     ·subst e; simp [(getD_false_of hl).2]
     ·simp only [e, if_false]; exact (hset k fun e2 => e e2.symm).symm
    | false =>
     rw [if_neg (by rw [hc]; simp)] at hlc
     refine .inl (Oper.wp_mono (fun a' w' hk' => ?_) hlc)
     obtain ⟨v, rfl, hr, hv⟩ := hk'
     rw [hdst]
     refine ih _ _ _ hleft (h.step' trivial (fun _ => trivial) hd hb hl (fun j u _ hu => hu) hwt hv) (hM _ _ _ (fun k hk => (hset k fun e => ?_).symm) (hS _ _ _ hr hs))
     subst e
     rw [hc] at hk; cases hk
 refine wp_region_any hm ?_
 refine go ops.size _ a0 _ ?_ ?_ ?_
 ·refine Nat.le_trans (List.length_filter_le _ _) ?_
  simp
 ·refine ⟨by simp, trivial, rfl, rfl, fun _ _ => rfl, ?_, ?_⟩
  ·intro i d h; exact absurd h (by simp [Array.getD])
  ·intro i j h; exact absurd h (by simp [Array.getD])
 ·refine hM _ _ _ (fun k _ => ?_) hw
  simp [Array.getD]
end
end Go.Proofs.YtemkjodkmehffaaGreatDoor
