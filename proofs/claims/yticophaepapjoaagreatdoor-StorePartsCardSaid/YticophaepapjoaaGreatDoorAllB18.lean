/-
  SuperOpen, IxHash, InvTwo, IxFind: texts of mine, joined.
-/
import Derived.Test.YticophaepapjoaaGreatDoorAllB14
import Derived.Test.YticophaepapjoaaGreatDoorAllB08
import Derived.Test.YticophaepapjoaaGreatDoorAllB17
import Derived.Test.YticophaepapjoaaGreatDoorAllB02
open Go.Lib renaming hid → Hd
set_option maxRecDepth 100000
set_option maxHeartbeats 8000000
namespace Go.Proofs.YticophaepapjoaaGreatDoor
open Go Go.RowKit Go.Joins
def recT : Option (Nat × List UInt8) → Nat × List UInt8
 | none => (0, [])
 | some r => r
theorem recV_is (o : Option (Nat × List UInt8)) : recV o = .agg #[.int .i64 ((recT o).1 : Int), .string (txt (recT o).2)] := by
 cases o <;> rfl
theorem decS_wf {l : List UInt8} {t : Nat} {x : List UInt8} (h : decS l = some (t, x)) : 1 ≤ t ∧ t ≤ 1099511627776 ∧ x.length ≤ 40 := by
 unfold decS at h
 cases hf : decF 83 l with
 | none => rw [hf] at h; cases h
 | some r =>
  rw [hf] at h
  obtain ⟨t', x'⟩ := r
  unfold takeS at h
  simp only at h
  split at h
  ·cases h
  ·injection h with h
   injection h with h3 h4
   subst h3; subst h4
   omega
theorem recT_le (l : List UInt8) : (recT (decS l)).1 ≤ 1099511627776 := by
 cases h : decS l with
 | none => exact Nat.zero_le _
 | some r => exact (decS_wf (t := r.1) (x := r.2) h).2.1
theorem blk_new (w : World) (n q p lat sp t : Nat) (x : List UInt8) (z : Int) (hz : z = (lat : Int)) (z2 : Int) (hz2 : z2 = (sp : Int)) (z3 : Int) (hz3 : z3 = (t : Int)) (hn : n = w.heap.size) (hq : q = n) : SBlk (w.alloc (.cells #[.int .i64 z3, .string (txt x), .pointer (some ⟨p, 0, none⟩), .int .i64 z, .int .i64 z2] 143)) q p lat sp t x := by
 subst hz hz2 hz3 hn hq
 exact heap_alloc_new w _
def SuperOpenPost (w : World) (p i t1 t2 : Nat) (x1 x2 : List UInt8) (e : Ending) (w' : World) : Prop :=
 (t2 ≤ t1 ∧ 1 ≤ t1 ∧ ∃ q, e = .returned (.tuple #[.pointer (some ⟨q, 0, none⟩), .int .i64 0]) ∧ SBlk w' q p i (i + 1) t1 x1 ∧ w.heap.size ≤ q ∧ Keeps (fun _ => True) w w') ∨
 (t1 < t2 ∧ ∃ q, e = .returned (.tuple #[.pointer (some ⟨q, 0, none⟩), .int .i64 0]) ∧ SBlk w' q p (i + 1) i t2 x2 ∧ w.heap.size ≤ q ∧ Keeps (fun _ => True) w w') ∨
 (t1 = 0 ∧ t2 = 0 ∧ e = .returned (.tuple #[.pointer none, .int .i64 3]) ∧ Keeps (fun _ => True) w w')
theorem sopen_any (w : World) (hT : Taken w) (p : Nat) (F : Foot) (s : SDev) (h : DAt w p F s) (i : Nat) (hi : i + 2 ≤ s.now.length) :
  Calls Tryz.prog 82 #[.pointer (some ⟨p, 0, none⟩), .int .i64 (i : Int)] w (SuperOpenPost w p i (recT (decS (s.now.getD i []))).1 (recT (decS (s.now.getD (i + 1) []))).1 (recT (decS (s.now.getD i []))).2 (recT (decS (s.now.getD (i + 1) []))).2) := by
 have hsm := h.ok.small
 have hi1 : i ≤ 2048 := by omega
 have HL1 := Hd (load_any w hT p F s h i (by omega))
 have HL2 := Hd (fun w' (hk : Keeps (fun _ => True) w w') => load_any w' (hT.keep hk) p F s (h.keep (hk.mono fun _ _ _ => trivial)) (i + 1) (by omega))
 have HTH := Hd (there_yes w p F s h i hi)
 have ht1 := recT_le (s.now.getD i [])
 have ht2 := recT_le (s.now.getD (i + 1) [])
 simp only [recV_is] at HL1 HL2
 generalize (recT (decS (s.now.getD i []))) = r1 at *
 generalize (recT (decS (s.now.getD (i + 1) []))) = r2 at *
 obtain ⟨t1, x1⟩ := r1
 obtain ⟨t2, x2⟩ := r2
 simp only at *
 clear h hT hi hsm
 go_enter Tryz.func82, Tryz.ntmps82
 go_wp2_with fail
 refine HTH.out.mono ?_
 rintro e w' ⟨rfl, rfl⟩
 go_wp2_with fail
 refine HL1.out.mono ?_
 rintro e w1 ⟨rfl, hk1⟩
 have HK1 := Hd hk1
 have HL2' := Hd (HL2.out w1 hk1)
 clear hk1 HL2 HL1 HTH
 go_wp2_with fail
 refine (show Calls _ _ _ _ _ from HL2'.out).mono ?_
 rintro e w2 ⟨rfl, hk2⟩
 have HK2 := Hd (HK1.out.trans hk2)
 clear hk2 HL2' HK1
 have hcs : (decide (t1 < t2) = false ∧ ((t1 : Int) == 0) = false ∧ t2 ≤ t1 ∧ 1 ≤ t1) ∨ (decide (t1 < t2) = true ∧ ((t2 : Int) == 0) = false ∧ t1 < t2) ∨ (decide (t1 < t2) = false ∧ ((t1 : Int) == 0) = true ∧ t1 = 0 ∧ t2 = 0) := by
  by_cases h : t1 < t2
  ·right; left; exact ⟨by simpa using h, by simp; omega, h⟩
  ·by_cases h0 : t1 = 0
   ·right; right; exact ⟨by simpa using h, by simp; omega, h0, by omega⟩
   ·left; exact ⟨by simpa using h, by simp; omega, by omega, by omega⟩
 have HFIN := Hd (show ∀ C, Keeps (fun _ => True) w ((((w2.alloc (.cells #[.int .i64 (t1 : Int), .string (txt x1)] 141)).alloc (.cells #[.int .i64 (t2 : Int), .string (txt x2)] 141)).alloc C)) from fun C => ((HK2.out.alloc _).alloc _).alloc C)
 rcases hcs with ⟨b1, b2, b3⟩ | ⟨b1, b2, b3⟩ | ⟨b1, b2, b3⟩
 ·have HC := Hd b3
  clear b3
  go_wp2_with fail
  go_ret2
  exact .inl ⟨HC.out.1, HC.out.2, _, rfl, blk_new _ _ _ p i (i + 1) t1 x1 _ rfl _ (by omega) _ rfl rfl (by simp), by have := HK2.out.size; omega, HFIN.out _⟩
 ·have HC := Hd b3
  clear b3
  go_wp2_with fail
  go_ret2
  exact .inr (.inl ⟨HC.out, _, rfl, blk_new _ _ _ p (i + 1) i t2 x2 _ (by omega) _ rfl _ rfl rfl (by simp), by have := HK2.out.size; omega, (HFIN.out _).alloc _⟩)
 ·have HC := Hd b3
  clear b3
  go_wp2_with fail
  go_ret2
  exact .inr (.inr ⟨HC.out.1, HC.out.2, rfl, HFIN.out _⟩)
def hashN (s : ByteArray) : Nat := (partsZ [s]).toNat
theorem hashZ_is (s : ByteArray) : 0 ≤ partsZ [s] ∧ partsZ [s] < 18446744073709551616 := by
 show 0 ≤ endZ _ _ ∧ endZ _ _ < _
 unfold endZ
 exact ⟨stZ_nonneg _, stZ_lt _⟩
theorem hashN_cast (s : ByteArray) : ((hashN s : Nat) : Int) = partsZ [s] := by
 have := hashZ_is s
 unfold hashN; omega
theorem hashN_lt (s : ByteArray) : hashN s < 18446744073709551616 := by
 have := hashZ_is s
 unfold hashN; omega
theorem hash_any (s : ByteArray) (b : Nat) (w : World) (hs : s.size ≤ 1000000) (hc : w.cell? ⟨b, 0, none⟩ = some (.string s)) :
  Calls Tryz.prog 69 #[.slice (some ⟨b, 0, none⟩) 1 1] w fun e w' => e = .returned (.int .u64 ((hashN s : Nat) : Int)) ∧ w' = w := by
 rw [hashN_cast]
 refine (of_any [s] b 0 1 w (show 1 ≤ maxLen by decide) (by intro x hx; simp at hx; rw [hx]; unfold maxLen; omega)
  (fun i hi => by have hi0 : i = 0 := by simpa using hi
                  subst hi0; exact hc)).mono ?_
 rintro e w' ⟨rfl, rfl⟩
 exact ⟨rfl, rfl⟩
end Go.Proofs.YticophaepapjoaaGreatDoor
namespace Go.Proofs.YticophaepapjoaaGreatDoor
open Go Go.RowKit
section
variable {P : Program} {ops : Array Oper} {Q : Exit → Act → World → Prop} {V : Nat → World → Value → Prop} {a0 : Act} {w0 : World}
theorem wp_region_two {id : Nat} {w : World} (k1 k2 : Nat) (St : Bool → Bool → World → Prop) (R1 R2 : World → World → Prop) (G : Nat → Option Bool) (hm : P.follows .mixedOrders = true)
  (hV : ∀ i w w' v, Kp w w' → V i w v → V i w' v) (hS : ∀ b c w w', Kp w w' → St b c w → St b c w') (hV1 : ∀ i, i ≠ k1 → ∀ w w' v, R1 w w' → V i w v → V i w' v) (hV2 : ∀ i, i ≠ k2 → ∀ w w' v, R2 w w' → V i w v → V i w' v) (h12 : waits ops k2 k1 = true)
  (hfit : fitsG G ops a0.tmps.size = true) (hk1 : k1 < ops.size) (hk2 : k2 < ops.size) (hG : ∀ g c, G g = some c → ∀ w v, V g w v → v = .bool c) (hU : ∀ (i : Nat) (o : Oper), ops[i]? = some o → wantsG G o = false → (i ≠ k1 ∧ i ≠ k2) ∧ V i = IsV undef) (hw : St false false w.drew)
  (loc : ∀ (i : Nat) (o : Oper), ops[i]? = some o → wantsG G o = true → ∀ a w, Leans (fun _ _ => True) V ops a0 w0 i a w →
   if i = k1 then (St false false w → o.wp P a w (fun a' w' => ∃ v, a' = a.put o.dst v ∧ R1 w w' ∧ St true false w' ∧ V i w' v) Q)
   else if i = k2 then (St true false w → o.wp P a w (fun a' w' => ∃ v, a' = a.put o.dst v ∧ R2 w w' ∧ St true true w' ∧ V i w' v) Q)
   else (∀ b c, St b c w → (∀ js, chained ops k1 i js = true → b = true) → (∀ js, chained ops i k1 js = true → b = false) → o.wp P a w (fun a' w' => ∃ v, a' = a.put o.dst v ∧ Kp w w' ∧ V i w' v) Q))
  (done : ∀ vs w, St true true w → vs.length = ops.size → (∀ i d, dstOf ops i = some d → V i w (vs.getD i undef)) → Q .normal (putAll a0 (ops.toList.map (·.dst)) vs) w) :
  (Code.region id ops true).wp P Q a0 w := by
 have look : ∀ (i : Nat) (o : Oper), ops[i]? = some o → (∀ g b, o.guard = some (g, b) → waits ops i g = true ∧ (dstOf ops g).isSome = true ∧ ((G g).isSome = true ∨ ∃ o', ops[g]? = some o' ∧ wantsG G o' = false)) ∧ (∀ e ∈ o.after, Region.binds .any e = true → e.on < i) ∧ (∀ d, o.dst = some d → d < a0.tmps.size) ∧ (∀ j, i ≠ j → ∀ d, o.dst = some d → dstOf ops j ≠ some d) := by
  intro i o ho
  have hi : i < ops.size := (Array.getElem?_eq_some_iff.1 ho).1
  have h := List.all_eq_true.1 hfit i (List.mem_range.2 hi)
  simp only [ho, Option.all_some, Bool.and_eq_true] at h
  obtain ⟨⟨⟨h1, h2⟩, h3⟩, h4⟩ := h
  refine ⟨fun g b hgb => ?_, fun e he hb => ?_, fun d hd => ?_, fun j hj d hd hx => ?_⟩
  ·rw [hgb] at h1
   simp only [Bool.and_eq_true, Bool.or_eq_true] at h1
   refine ⟨h1.1.1, h1.1.2, h1.2.imp (fun hx => hx) fun hx => ?_⟩
   cases ho' : ops[g]? with
   | none => rw [ho'] at hx; cases hx
   | some o' =>
    rw [ho'] at hx
    exact ⟨o', rfl, by simpa using hx⟩
  ·have := Array.all_eq_true_iff_forall_mem.1 h2 e he
   simpa [hb] using this
  ·rw [hd] at h3; simpa using h3
  ·have hjs : j < ops.size := by
    rcases Nat.lt_or_ge j ops.size with h' | h'
    ·exact h'
    ·simp [dstOf, Array.getElem?_eq_none h'] at hx
   have := List.all_eq_true.1 h4 j (List.mem_range.2 hjs)
   rw [hd, hx] at this
   simp [hj] at this
 have some_of : ∀ i d, dstOf ops i = some d → ∃ o, ops[i]? = some o ∧ o.dst = some d := fun i d h => by
  unfold dstOf at h
  cases ho : ops[i]? with
  | none => simp [ho] at h
  | some o => exact ⟨o, rfl, by simpa [ho] using h⟩
 have hd : ∀ i j d, dstOf ops i = some d → dstOf ops j = some d → i = j := by
  intro i j d hi hj
  obtain ⟨o, ho, hd⟩ := some_of i d hi
  exact Classical.byContradiction fun hne => (look i o ho).2.2.2 j hne d hd hj
 have hb : ∀ i d, dstOf ops i = some d → d < a0.tmps.size := by
  intro i d hi
  obtain ⟨o, ho, hd⟩ := some_of i d hi
  exact (look i o ho).2.2.1 d hd
 have hac : ∀ i j, waits ops i j = true → j < i := by
  intro i j h
  obtain ⟨o, ho, e, he, hb, rfl⟩ := (waits_iff i j).1 h
  exact (look i o ho).2.1 e he hb
 have fin : ∀ (l : Array Bool) (a : Act) (w' : World), (∀ i, i < ops.size → l.getD i false = true) → StandsAt (fun _ _ => True) V ops a0 w0 l a w' → St (l.getD k1 false) (l.getD k2 false) w' → Q .normal a w' := by
  intro l a w' hall h hs
  rw [hall k1 hk1, hall k2 hk2] at hs
  have hlen : ((ops.toList.map (·.dst)).map (slotOf a)).length = ops.size := by simp
  have hq := done ((ops.toList.map (·.dst)).map (slotOf a)) w' hs hlen (fun i d hid => by
   obtain ⟨o, ho, hd⟩ := some_of i d hid
   have hi : i < ops.size := (Array.getElem?_eq_some_iff.1 ho).1
   have hv := h.val i d (hall i hi) hid
   have e : ((ops.toList.map (·.dst)).map (slotOf a)).getD i undef = a.tmps.getD d undef := by
    rw [List.getD_eq_getElem?_getD, List.getElem?_map, List.getElem?_map, Array.getElem?_toList, ho]
    simp [hd, slotOf]
   rw [e]; exact hv)
  rw [← putAll_of a _ a0 h.defers h.tmps ?_ ?_] at hq
  ·exact hq
  ·intro d hd
   obtain ⟨o, ho, hod⟩ := List.mem_map.1 hd
   obtain ⟨i, hi, rfl⟩ := List.getElem_of_mem ho
   exact (look i ops[i] (by simp at hi; simp [hi])).2.2.1 d (by simpa using hod)
  ·intro t ht
   refine h.old t fun i _ hid => ht ?_
   obtain ⟨o, ho, hd⟩ := some_of i t hid
   refine List.mem_map.2 ⟨o, ?_, hd⟩
   rw [← Array.mem_def]
   exact Array.mem_of_getElem? ho
 have go : ∀ (fuel : Nat) (l : Array Bool) (a : Act) (w : World), (leftOver ops.size l).length ≤ fuel → StandsAt (fun _ _ => True) V ops a0 w0 l a w → St (l.getD k1 false) (l.getD k2 false) w → wpAny P .any ops Q fuel l a w := by
  intro fuel
  induction fuel with
  | zero =>
   intro l a w hf h hs
   have hn : leftOver ops.size l = [] := List.eq_nil_of_length_eq_zero (by omega)
   have hnot : ∀ i, i < ops.size → l.getD i false = true := fun i hi => by
    have hm : i ∉ leftOver ops.size l := by rw [hn]; simp
    have hl' : i < l.size := by rw [h.size]; exact hi
    unfold leftOver at hm
    simp only [List.mem_filter, List.mem_range, hi, true_and, Array.getD, hl'] at hm ⊢
    simpa using hm
   refine ⟨?_, fin l a w hnot h hs⟩
   refine List.eq_nil_iff_forall_not_mem.2 fun i hi => ?_
   have hm := (mem_ready.1 hi).1
   have hx := getD_false_of hm
   rw [hnot i (by rw [← h.size]; exact hx.2)] at hx
   exact absurd hx.1 (by simp)
  | succ fuel ih =>
   intro l a w hf h hs
   refine ⟨fun hr => fin l a w (all_listed hac h.size hr) h hs, fun i hi => ?_⟩
   obtain ⟨hl, o, ho, hall⟩ := mem_ready.1 hi
   have hwt : ∀ j, waits ops i j = true → l.getD j false = true := fun j hj => by
    obtain ⟨o', ho', e, he, hb', rfl⟩ := (waits_iff i j).1 hj
    rw [ho] at ho'; cases ho'
    exact hall e he hb'
   have hdst : o.dst = dstOf ops i := by simp [dstOf, ho]
   have hleft : (leftOver ops.size (l.setIfInBounds i true)).length ≤ fuel := by
    have := leftOver_set ops.size l i (by rw [← h.size]; exact (getD_false_of hl).2) hl
    omega
   have hwant := wanted_is (h.leans hl hwt) (fun j d hj => by rw [h.tmps]; exact hb j d hj) (look i o ho).1 hG (fun i o ho hw => (hU i o ho hw).2)
   have hset : ∀ k, i ≠ k → (l.setIfInBounds i true).getD k false = l.getD k false := fun k hne => getD_set_ne false hne
   have hself : (l.setIfInBounds i true).getD i false = true := by simp [(getD_false_of hl).2]
   have hloc := loc i o ho
   unfold wpOp
   cases hwo : wantsG G o
   ·rw [hwo] at hwant
    obtain ⟨hne, hu⟩ := hU i o ho hwo
    simp only [ho, hwant, Bool.false_eq_true, if_false]
    rw [hdst]
    exact ih _ _ _ hleft (h.step' trivial (fun _ => trivial) hd hb hl (fun _ _ _ hh => hh) hwt (by rw [hu]; rfl)) (by rw [hset _ hne.1, hset _ hne.2]; exact hs)
   ·rw [hwo] at hwant
    simp only [ho, hwant, if_true]
    have hlc := hloc hwo a w (h.leans hl hwt)
    by_cases hi1 : i = k1
    ·subst hi1
     rw [if_pos rfl] at hlc
     have hlf := (getD_false_of hl).1
     have hl2 : l.getD k2 false = false := by
      cases hx : l.getD k2 false with
      | false => rfl
      | true =>
       have := h.down k2 i hx h12
       rw [hlf] at this; cases this
     have hne : i ≠ k2 := fun e => by
      have h1 := hac k2 i h12
      omega
     rw [hlf, hl2] at hs
     refine .inl (Oper.wp_mono (fun a' w' hk' => ?_) (hlc hs))
     obtain ⟨v, rfl, hr, hst, hv⟩ := hk'
     rw [hdst]
     refine ih _ _ _ hleft (h.step' trivial (fun _ => trivial) hd hb hl (fun j u hj hu => ?_) hwt hv) (by
      rw [hself, hset _ hne, hl2]; exact hst)
     exact hV1 j (fun e => by subst e; rw [hj] at hlf; cases hlf) w w' u hr hu
    ·rw [if_neg hi1] at hlc
     by_cases hi2 : i = k2
     ·subst hi2
      rw [if_pos rfl] at hlc
      have hlf := (getD_false_of hl).1
      have hl1 := hwt k1 h12
      rw [hlf, hl1] at hs
      refine .inl (Oper.wp_mono (fun a' w' hk' => ?_) (hlc hs))
      obtain ⟨v, rfl, hr, hst, hv⟩ := hk'
      rw [hdst]
      refine ih _ _ _ hleft (h.step' trivial (fun _ => trivial) hd hb hl (fun j u hj hu => ?_) hwt hv) (by
       rw [hself, hset _ hi1, hl1]; exact hst)
      exact hV2 j (fun e => by subst e; rw [hj] at hlf; cases hlf) w w' u hr hu
     ·rw [if_neg hi2] at hlc
      refine .inl (Oper.wp_mono (fun a' w' hk' => ?_) (hlc _ _ hs (fun js hbh => chained_listed h js i hwt hbh) (fun js hbh => ?_)))
      ·obtain ⟨v, rfl, hr, hv⟩ := hk'
       rw [hdst]
       exact ih _ _ _ hleft (h.step' trivial (fun _ => trivial) hd hb hl (fun j u _ hu => hV j w w' u hr hu) hwt hv) (by rw [hset _ hi1, hset _ hi2]; exact hS _ _ _ _ hr hs)
      ·cases hx : l.getD k1 false with
       | false => rfl
       | true =>
        have := chained_listed h js k1 (fun j hj => h.down k1 j hx hj) hbh
        rw [(getD_false_of hl).1] at this; cases this
 refine wp_region_any hm ?_
 refine go ops.size _ a0 _ ?_ ?_ ?_
 ·refine Nat.le_trans (List.length_filter_le _ _) ?_
  simp
 ·refine ⟨by simp, trivial, rfl, rfl, fun _ _ => rfl, ?_, ?_⟩
  ·intro i d h; exact absurd h (by simp [Array.getD])
  ·intro i j h; exact absurd h (by simp [Array.getD])
 ·have : ∀ k, (Array.replicate ops.size false).getD k false = false := fun k => by simp [Array.getD]
  rw [this, this]; exact hw
end
end Go.Proofs.YticophaepapjoaaGreatDoor
namespace Go.Proofs.YticophaepapjoaaGreatDoor
open Go Go.RowKit Go.Joins
theorem ixfind_any (w : World) (q g n c : Nat) (T : Tab) (st : IxSt) (hI : IxAt w q g n c T) (hT : TabOk hashN T n st) (hn : n ≤ 1099511627776) (k : ByteArray) :
  Calls Tryz.prog 68 #[.pointer (some ⟨q, 0, none⟩), .string k, .int .u64 ((hashN k : Nat) : Int)] w fun e w' => w' = w ∧
   ((∃ i, i < n ∧ (T i).full = true ∧ (T i).key = k ∧ e = .returned (.tuple #[.int .i64 (i : Int), .bool true])) ∨ (ixGet st k = none ∧ e = .returned (.tuple #[.int .i64 0, .bool false]))) := by
 obtain ⟨f, hf1, hf2⟩ := hT.free
 have h0 := hT.pos
 have hh := hashN_lt k
 have HI := Hd hI
 have HT := Hd hT
 have c0 := hI.blk.c0
 have hne : ¬ ((n : Int) = 0) := by omega
 have hHome := Hd (home_any w q g n c T hI h0 hn (hashN k) hh)
 have hS := Seen.start (h := hashN) (T := T) h0 k
 have HS := Hd hS
 have hBeh := Hd (fun i hi => ixbehind_any w q g n c T hI i hi hn)
 clear hI hT hS hh
 generalize hX : hashN k = X at hHome HS ⊢
 have HX := Hd hX
 clear hX
 go_enter Tryz.func68, Tryz.ntmps68
 go_wp2_with fail
 refine (show Calls _ _ _ _ _ from hHome.out).mono ?_
 rintro e w1 ⟨rfl, rfl⟩
 clear hHome
 have HS : Hid (Seen hashN T n k 0 (X % n)) := by rw [← HX.out] at HS ⊢; exact HS
 generalize X % n = i0 at HS ⊢
 go_wp2_with fail
 go_loopw [8] (fun i wr => ∃ j d : Nat, j < n ∧ i = .int .i64 (j : Int) ∧ wr = w1 ∧ Hid (Seen hashN T n k d j)) (fun i _ => n - way n (hashN k % n) (intOf i).toNat)
 case atStart => exact ⟨i0, 0, HS.out.lt, rfl, rfl, HS⟩
 case round =>
  clear HS
  obtain ⟨j, d, hj, rfl, rfl, HS⟩ := hrel
  have t1 := HI.out.tab.c1 hj
  have t0 := HI.out.tab.c0 hj
  have t3 := HI.out.tab.c3 hj
  have hw := HS.out.way
  cases hful : (T j).full with
  | false =>
   rw [hful] at t3
   have HF := Hd (HS.out.miss HT.out hful)
   clear hful hw t0 t1
   go_wp2_with fail
   go_ret2
   exact ⟨rfl, .inr ⟨HF.out, rfl⟩⟩
  | true =>
   rw [hful] at t3
   have hhash := HT.out.hash j hj hful
   generalize hK : (T j).key = K at t0 hhash
   by_cases hk : K = k
   ·subst hk
    have HF := Hd (show ∃ i, i < n ∧ (T i).full = true ∧ (T i).key = K ∧ Ending.returned (.tuple #[.int .i64 (j : Int), .bool true]) = .returned (.tuple #[.int .i64 (i : Int), .bool true]) from ⟨j, hj, hful, hK, rfl⟩)
    have hX := HX.out
    rw [hX] at hhash
    rw [hhash] at t1
    clear hful hw hhash hX hK
    go_wp2_with fail
    go_ret2
    exact ⟨rfl, .inl HF.out⟩
   ·have hne2 : (K.toList == k.toList) = false := by
     rw [beq_eq_false_iff_ne]
     intro e
     rw [ByteArray.toList_eq, ByteArray.toList_eq] at e
     exact hk (ByteArray.ext (Array.toList_inj.1 e))
    have HN := Hd (HS.out.next hf1 hf2 hful (by rw [hK]; exact hk))
    have hj2 := HN.out.lt
    have hw2 := HN.out.way
    have hd2 := HN.out.dn
    have HW := Hd (show n - way n (hashN k % n) (nx n j 1) < n - way n (hashN k % n) j by omega)
    have hB := Hd (hBeh.out j hj)
    clear hful hw hhash hK hk hw2 hd2 HS
    generalize nx n j 1 = j2 at HN hj2 HW hB
    generalize hZ : (T j).hash = Z at t1
    clear hZ
    by_cases hz : Z = (X : Int)
    ·subst hz
     go_wp2_with fail
     refine (show Calls _ _ _ _ _ from hB.out).mono ?_
     rintro e w2 ⟨rfl, rfl⟩
     go_wp2_with fail
     go_roundw
     case rel => exact ⟨j2, d + 1, hj2, rfl, trivial, HN⟩
     case measure => simp only [intOf, Int.toNat_natCast]; exact HW.out
    ·have hz' : (Z == (X : Int)) = false := by rw [beq_eq_false_iff_ne]; exact hz
     go_wp2_with fail
     refine (show Calls _ _ _ _ _ from hB.out).mono ?_
     rintro e w2 ⟨rfl, rfl⟩
     go_wp2_with fail
     go_roundw
     case rel => exact ⟨j2, d + 1, hj2, rfl, trivial, HN⟩
     case measure => simp only [intOf, Int.toNat_natCast]; exact HW.out
end Go.Proofs.YticophaepapjoaaGreatDoor
