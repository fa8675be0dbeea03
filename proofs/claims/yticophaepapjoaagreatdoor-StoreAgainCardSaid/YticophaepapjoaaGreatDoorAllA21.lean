/-
  MtSmall, ItemEncs, ItemDec, SlgChunked: texts of mine, joined.
-/
import Derived.Test.YticophaepapjoaaGreatDoorAllA19
import Derived.Test.YticophaepapjoaaGreatDoorAllA16
import Derived.Test.YticophaepapjoaaGreatDoorAllA13
import Derived.Test.YticophaepapjoaaGreatDoorAllA20
namespace Go.Proofs.YticophaepapjoaaGreatDoor
open Go Go.RowKit Go.Joins
def fitZ (z : Int) : Bool := decide (0 ≤ z) && decide (z ≤ 1099511627776)
theorem mfits_any (w : World) (z : Int) : Calls Tryz.prog 77 #[.int .i64 z] w fun e w' => e = .returned (.bool (fitZ z)) ∧ w = w' := by
 have hcase : (decide (0 ≤ z) = true ∧ decide (z ≤ 1099511627776) = true) ∨ (decide (0 ≤ z) = true ∧ decide (z ≤ 1099511627776) = false) ∨ decide (0 ≤ z) = false := by
  cases h1 : decide (0 ≤ z) <;> cases h2 : decide (z ≤ 1099511627776) <;> simp
 have HM := Lib.hid (show fitZ z = (decide (0 ≤ z) && decide (z ≤ 1099511627776)) from rfl)
 generalize fitZ z = b at HM ⊢
 rcases hcase with ⟨t1, t2⟩ | ⟨t1, t2⟩ | t1
 all_goals (
  go_enter Tryz.func77, Tryz.ntmps77
  go_wp2_with fail
  go_ret
  exact ⟨by simp [HM.out, *], rfl⟩)
theorem mayB_fits (x : M4) : mayB x = (fitZ x.boot && (fitZ x.epoch && (fitZ x.ready && (if x.ready == 0 then !x.frozen else decide (x.epoch < x.ready))))) := by
 obtain ⟨bo, ep, re, fr⟩ := x
 unfold mayB small12 fitZ
 simp only
 by_cases h : re = 0
 ·subst h
  have e1 : ((0 : Int) == 0) = true := by decide
  have e2 : (decide (0 ≤ ep) && decide (ep < 0)) = false := by
   cases h1 : decide (0 ≤ ep) <;> simp_all
  rw [e1]
  cases decide (0 ≤ bo) <;> cases decide (bo ≤ 1099511627776) <;> cases h1 : decide (0 ≤ ep) <;> cases decide (ep ≤ 1099511627776) <;> cases fr <;> simp_all
 ·have e1 : (re == 0) = false := by simpa using h
  rw [e1]
  cases decide (0 ≤ bo) <;> cases decide (bo ≤ 1099511627776) <;> cases h1 : decide (0 ≤ ep) <;> cases decide (ep ≤ 1099511627776) <;> cases decide (0 ≤ re) <;> cases decide (re ≤ 1099511627776) <;> simp
set_option maxHeartbeats 1000000 in
theorem mmay_any (w : World) (x : M4) : Calls Tryz.prog 49 #[magg x] w fun e w' => e = .returned (.bool (mayB x)) ∧ Kp w w' := by
 have HM := Lib.hid (mayB_fits x)
 generalize mayB x = b at HM ⊢
 obtain ⟨bo, ep, re, fr⟩ := x
 have HM2 := Lib.hid (show b = (fitZ bo && (fitZ ep && (fitZ re && (if re == 0 then !fr else decide (ep < re))))) from HM.out)
 clear HM
 have HK := Lib.hid ((Keeps.refl (fun _ => True) w).alloc (.cells #[.int .i64 bo, .int .i64 ep, .int .i64 re, .bool fr] 32))
 unfold magg
 go_enter Tryz.func49, Tryz.ntmps49
 go_wp2_with fail
 refine (mfits_any _ bo).mono ?_
 rintro e w1 ⟨rfl, rfl⟩
 cases h1 : fitZ bo with
 | false =>
  have HE := Lib.hid h1
  clear h1
  go_wp2_with fail
  go_ret
  exact ⟨by simp [HM2.out, HE.out], HK.out⟩
 | true =>
  have HE1 := Lib.hid h1
  clear h1
  go_wp2_with fail
  refine (mfits_any _ ep).mono ?_
  rintro e w1 ⟨rfl, rfl⟩
  cases h1 : fitZ ep with
  | false =>
   have HE := Lib.hid h1
   clear h1
   go_wp2_with fail
   go_ret
   exact ⟨by simp [HM2.out, HE.out], HK.out⟩
  | true =>
   have HE2 := Lib.hid h1
   clear h1
   go_wp2_with fail
   refine (mfits_any _ re).mono ?_
   rintro e w1 ⟨rfl, rfl⟩
   cases h1 : fitZ re with
   | false =>
    have HE := Lib.hid h1
    clear h1
    go_wp2_with fail
    go_ret
    exact ⟨by simp [HM2.out, HE.out], HK.out⟩
   | true =>
    have HE3 := Lib.hid h1
    clear h1
    have hc : (re == 0) = true ∨ (re == 0) = false := by cases (re == 0) <;> simp
    rcases hc with t | t
    ·have HF := Lib.hid (show b = !fr from by rw [HM2.out, HE1.out, HE2.out, HE3.out, t]; rfl)
     go_wp2_with fail
     go_ret
     exact ⟨by rw [HF.out]; rfl, HK.out⟩
    ·have HF := Lib.hid (show b = decide (ep < re) from by rw [HM2.out, HE1.out, HE2.out, HE3.out, t]; rfl)
     go_wp2_with fail
     go_ret
     exact ⟨by rw [HF.out]; rfl, HK.out⟩
def KBlk (w : World) (k q : Nat) (m : M4) : Prop :=
 w.heap[k]? = some (.cells #[.pointer (some ⟨q, 0, none⟩), .int .i64 m.boot, .int .i64 m.epoch, .int .i64 m.ready, .bool m.frozen] 86 (0, 0))
section
variable {w w' : World} {k q : Nat} {m : M4} {G : Nat → Prop}
theorem KBlk.lt (h : KBlk w k q m) : k < w.heap.size := (Array.getElem?_eq_some_iff.1 h).1
theorem KBlk.keep (h : KBlk w k q m) (hk : Keeps G w w') (hG : G k) : KBlk w' k q m := (hk.block k hG h.lt).trans h
theorem KBlk.c0 (h : KBlk w k q m) : w.cell? ⟨k, 0, none⟩ = some (.pointer (some ⟨q, 0, none⟩)) := cell_of_block h 0
theorem KBlk.c1 (h : KBlk w k q m) : w.cell? ⟨k, 1, none⟩ = some (.int .i64 m.boot) := cell_of_block h 1
theorem KBlk.c2 (h : KBlk w k q m) : w.cell? ⟨k, 2, none⟩ = some (.int .i64 m.epoch) := cell_of_block h 2
theorem KBlk.c3 (h : KBlk w k q m) : w.cell? ⟨k, 3, none⟩ = some (.int .i64 m.ready) := cell_of_block h 3
theorem KBlk.c4 (h : KBlk w k q m) : w.cell? ⟨k, 4, none⟩ = some (.bool m.frozen) := cell_of_block h 4
theorem KBlk.fz (h : KBlk w k q m) (i : Nat) : w.frozen? ⟨k, i, none⟩ = false := unfrozen_of_block h i
theorem KBlk.new (w : World) (q : Nat) (m : M4) (k : Nat) (hk : k = w.heap.size) : KBlk (w.alloc (.cells #[.pointer (some ⟨q, 0, none⟩), .int .i64 m.boot, .int .i64 m.epoch, .int .i64 m.ready, .bool m.frozen] 86)) k q m := by subst hk; exact heap_alloc_new w _
theorem KBlk.set4 (h : KBlk w k q m) (x : M4) : KBlk ((((w.setCell ⟨k, 1, none⟩ (.int .i64 x.boot)).setCell ⟨k, 2, none⟩ (.int .i64 x.epoch)).setCell ⟨k, 3, none⟩ (.int .i64 x.ready)).setCell ⟨k, 4, none⟩ (.bool x.frozen)) k q x :=
 (block_setCell (block_setCell (block_setCell (block_setCell h _) _) _) _).trans rfl
end
theorem mdown_no (w : World) (k q : Nat) (m : M4) (h : KBlk w k q m) : Calls Tryz.prog 48 #[.pointer (some ⟨k, 0, none⟩)] w fun e w' => e = .returned (.bool false) ∧ w = w' := by
 have c0 := h.c0
 clear h
 go_enter Tryz.func48, Tryz.ntmps48
 go_wp2_with fail
 go_ret
 exact ⟨rfl, rfl⟩
set_option maxHeartbeats 1000000 in
theorem kmeta_any (w : World) (k q : Nat) (m : M4) (h : KBlk w k q m) : Calls Tryz.prog 12 #[.pointer (some ⟨k, 0, none⟩)] w fun e w' => e = .returned (magg m) ∧ Kp w w' := by
 obtain ⟨bo, ep, re, fr⟩ := m
 have c1 := h.c1
 have c2 := h.c2
 have c3 := h.c3
 have c4 := h.c4
 have hlt := h.lt
 simp only at c1 c2 c3 c4
 clear h
 have HK := Lib.hid ((Keeps.refl (fun _ => True) w).alloc (.cells #[.int .i64 bo, .int .i64 ep, .int .i64 re, .bool fr] 32))
 unfold magg
 go_enter Tryz.func12, Tryz.ntmps12
 go_wp2_with fail
 refine bodyPost_ret (v := .agg #[.int .i64 bo, .int .i64 ep, .int .i64 re, .bool fr]) ?_ rfl ⟨rfl, HK.out⟩
 simp [results, Tryz.results12, go_sem]
set_option maxRecDepth 100000 in
set_option maxHeartbeats 1000000 in
theorem iencode (w : World) (A : Option Addr) (cap : Nat) (l : List It) (hA : ItsAt w A (fun _ => True) l) (_hl : l.length ≤ cap) (hc : cap ≤ maxLen) (hn : l.length ≤ 1000) (hf : ∀ x ∈ l, x.fits) :
  Calls Tryz.prog 45 #[.slice A l.length cap] w fun e w' => ∃ B k, e = .returned (.slice B (encs l).length k) ∧ (encs l).length ≤ k ∧ k ≤ maxLen ∧
   Row w' B (fun b => w.heap.size ≤ b ∧ b < w'.heap.size) (bcells (encs l)) ∧ Keeps (fun _ => True) w w' := by
 have hc' := hc
 unfold maxLen at hc'
 have HFIN := Lib.hid (show ∀ (v : Value) (wr : World), OwnB wr w.heap.size v (encs l) → Keeps (fun _ => True) w wr →
   ∃ B k, Ending.returned v = .returned (.slice B (encs l).length k) ∧ (encs l).length ≤ k ∧ k ≤ maxLen ∧ Row wr B (fun b => w.heap.size ≤ b ∧ b < wr.heap.size) (bcells (encs l)) ∧ Keeps (fun _ => True) w wr from fun v wr ho hkp => by
  have h2 := ho.2
  obtain ⟨B, k, rfl, -, hr⟩ := own_slice ho
  refine ⟨B, k, rfl, ?_, ?_, hr, hkp⟩
  ·rcases h2 with ⟨e, h0⟩ | ⟨g, c, cur, e, -, -, h1, h2, -⟩
   ·omega
   ·injection e with _ _ e; omega
  ·rcases h2 with ⟨e, h0⟩ | ⟨g, c, cur, e, -, -, h1, h2, -⟩
   ·injection e with _ _ e; subst e; decide
   ·injection e with _ _ e; omega)
 have HA := Lib.hid hA
 have HF := Lib.hid hf
 clear hA hf hc
 go_enter Tryz.func45, Tryz.ntmps45
 go_wp2
 go_loopw [3, 8] (fun v i wr => ∃ k : Nat, k ≤ l.length ∧ i = .int .i64 k ∧ (l.take k).all It.may = true ∧ OwnB wr w.heap.size v (bytesOf (l.take k)) ∧ Keeps (fun _ => True) w wr) (fun _ i _ => l.length - (intOf i).toNat)
 case atStart => exact ⟨0, Nat.zero_le _, rfl, rfl, World.ownsRow_nil _ _ _ _, Keeps.refl _ _⟩
 case round =>
  obtain ⟨k, hk, rfl, hall, hown, hkp⟩ := hrel
  have hwz := hkp.size
  have hblen := bytesOf_len hall
  rw [List.length_take, Nat.min_eq_left hk] at hblen
  have HW := Lib.hid hown
  have HK := Lib.hid hkp
  have HALL := Lib.hid hall
  clear hown hkp hall
  by_cases hlt : k < l.length
  ·have t1 : decide ((k : Int) < (l.length : Int)) = true := by simp; omega
   obtain ⟨b, o, rfl, hb, d0, d1, d2, d3⟩ := HA.out k hlt
   have hfx := HF.out _ (List.getElem_mem hlt)
   have HN := Lib.hid (take_bytes l k hlt)
   have HT := Lib.hid (take_may l k hlt)
   have HNO := Lib.hid (not_may hlt)
   generalize l[k] = x at d0 d1 d2 d3 hfx HN HT HNO
   have HC := Lib.hid (show ∀ W, Keeps (fun _ => True) w W → W.cell? ⟨b, o + k * 4, none⟩ = some (.string x.key) ∧ W.cell? ⟨b, o + k * 4 + 1, none⟩ = some (.string x.val) ∧ W.cell? ⟨b, o + k * 4 + 2, none⟩ = some (.int .i64 x.till) ∧ W.cell? ⟨b, o + k * 4 + 3, none⟩ = some (.bool x.gone) from
    fun W h => ⟨h.cell d0 trivial, h.cell d1 trivial, h.cell d2 trivial, h.cell d3 trivial⟩)
   clear d0 d1 d2 d3
   obtain ⟨c0, c1, c2, c3⟩ := HC.out wr HK.out
   have RM := Lib.hid (fun W => imay W x hfx)
   have REN := Lib.hid (fun W h => iencode1 W x h)
   clear hfx
   go_wp2_with fail
   refine (RM.out _).mono ?_
   rintro e w1 ⟨rfl, hk1⟩
   have hx := hk1.block wr.heap.size trivial (by simp)
   have hx2 := hx.trans (heap_alloc_new wr (.cells #[.string x.key, .string x.val, .int .i64 x.till, .bool x.gone] 40))
   have HK1 := Lib.hid ((HK.out.alloc (.cells #[.string x.key, .string x.val, .int .i64 x.till, .bool x.gone] 40)).trans hk1)
   have HW1 := Lib.hid (((Keeps.refl (fun _ => True) wr).alloc _).trans hk1 |>.own HW.out fun _ _ => trivial)
   have e0 := (cell_of_block hx2 0).trans rfl
   have e1 := (cell_of_block hx2 1).trans rfl
   have e2 := (cell_of_block hx2 2).trans rfl
   have e3 := (cell_of_block hx2 3).trans rfl
   clear hk1 hx hx2 c0 c1 c2 c3 RM
   rcases hm : x.may with _ | _
   ·have HM := Lib.hid hm
    clear hm
    go_wp2_with fail
    go_ret
    exact HFIN.out _ _ (by rw [HNO.out HM.out]; exact World.ownsRow_nil _ _ _ _) HK1.out
   ·have hmb := It.bytes_len hm
    have HM := Lib.hid hm
    clear hm
    go_wp2_with fail
    refine (REN.out _ HM.out).mono ?_
    rintro e w2 ⟨v2, rfl, ho2, hk2⟩
    have HSRC := Lib.hid (src_own ho2)
    have HW2 := Lib.hid (hk2.own HW1.out fun _ _ => trivial)
    have HK2 := Lib.hid (HK1.out.trans hk2)
    have hz2 := HK2.out.size
    clear ho2 hk2 HW1 HK1 e0 e1 e2 e3 REN
    go_wp2_with (at_builtin; refine byte_elem.list_append rfl (.tmp 15) (.tmp 17) _ rfl rfl HW2.out rfl HSRC.out ?c3 ?c4 ?c5 ?_)
    case c3 => unfold maxLen; omega
    case c4 => omega
    case c5 => omega
    intro v3 w3 ho3 hg3 hb3
    have ho4 := OwnB.snoc ho3 (by rw [List.length_append]) rfl
    rw [← HN.out] at ho4
    have H1 := Lib.hid ho4
    have H2 := Lib.hid (HK2.out.grown hg3 fun j hj => (HW2.out.lt j hj).1)
    have H3 := Lib.hid (show (l.take (k + 1)).all It.may = true from by rw [HT.out, HALL.out, HM.out]; rfl)
    clear ho3 hg3 hb3 ho4 HW2 HK2 HSRC
    go_wp2_with fail
    go_roundw
    case rel => exact ⟨k + 1, by omega, by go_num, H3.out, H1.out, H2.out⟩
    case measure => simp [intOf]; omega
  ·have t1 : decide ((k : Int) < (l.length : Int)) = false := by simp; omega
   obtain rfl : k = l.length := by omega
   have he : OwnB wr w.heap.size u3 (encs l) := by
    have h1 := HALL.out
    have h2 := HW.out
    rw [List.take_of_length_le (Nat.le_refl _)] at h1 h2
    rw [encs_may h1]; exact h2
   have HE := Lib.hid he
   clear he
   go_wp2_with fail
   go_ret
   exact HFIN.out _ _ HE.out HK.out
theorem getT_ok {l s : List UInt8} {k : Nat} (h : getT l = (s, k, 0)) : l = putT s ++ l.drop k ∧ k = (putT s).length ∧ s.length ≤ 65536 ∧ k ≤ l.length ∧ 0 < k := by
 rcases getZ_cases l with ⟨n, k', hg, hk0, hk10, hkl, hn1, hn2⟩ | hg | hg
 ·obtain ⟨r, hr, hk, -, -⟩ := getZ_ok l n k' hg
  by_cases hf : n < 0 ∨ 65536 < n
  ·rw [getT_form hg hf] at h; cases h
  ·by_cases hm : (l.length : Int) < k' + n
   ·rw [getT_more hg hf hm] at h; cases h
   ·rw [getT_got hg hf hm] at h
    injection h with h1 h2
    injection h2 with h2 _
    obtain ⟨m, rfl⟩ := Int.eq_ofNat_of_zero_le (show 0 ≤ n by omega)
    rw [Int.toNat_natCast] at h1 h2
    have hd : l.drop k' = r := by rw [hr, hk]; exact List.drop_left
    have hlen : l.length = k' + r.length := by
     conv => lhs; rw [hr]
     rw [List.length_append, hk]
    have hsl : s.length = m := by rw [← h1, List.length_take, hd]; omega
    have hp : putT s = putZ (m : Int) ++ s := by unfold putT; rw [hsl]
    refine ⟨?_, ?_, by omega, by omega, by omega⟩
    ·rw [hp, ← h2, ← h1, hd, ← List.drop_drop, hd, List.append_assoc, List.take_append_drop]
     exact hr
    ·rw [hp, List.length_append, hsl, ← hk, h2]
 ·rw [getT_err hg (by decide)] at h; cases h
 ·rw [getT_err hg (by decide)] at h; cases h
theorem allZ2_ok {l : List UInt8} {xs : List Int} {k : Nat} (h : allZ 2 l = (xs, k, 0)) : ∃ t g r, xs = [t, g] ∧ l = putZ t ++ (putZ g ++ r) ∧ k = (putZ t).length + (putZ g).length ∧ -9223372036854775808 ≤ t ∧ t < 9223372036854775808 ∧ -9223372036854775808 ≤ g ∧ g < 9223372036854775808 := by
 rcases getZ_cases l with ⟨t, k1, hg, hk0, hk10, hkl, hn1, hn2⟩ | hg | hg
 ·obtain ⟨r, hr, hk, -, -⟩ := getZ_ok l t k1 hg
  rw [allZ_ok hg] at h
  have hd : l.drop k1 = r := by rw [hr, hk]; exact List.drop_left
  rw [hd] at h
  rcases getZ_cases r with ⟨g, k2, hg2, -, -, -, hm1, hm2⟩ | hg2 | hg2
  ·obtain ⟨r2, hr2, hk2, -, -⟩ := getZ_ok r g k2 hg2
   rw [allZ_ok hg2] at h
   simp only [allZ] at h
   injection h with h1 h2
   injection h2 with h2 _
   exact ⟨t, g, r2, h1.symm, by rw [← hr2]; exact hr, by rw [← h2, ← hk, ← hk2]; omega, hn1, hn2, hm1, hm2⟩
  ·rw [allZ_err hg2 (by decide)] at h; cases h
  ·rw [allZ_err hg2 (by decide)] at h; cases h
 ·rw [allZ_err hg (by decide)] at h; cases h
 ·rw [allZ_err hg (by decide)] at h; cases h
theorem dec_of {x : It} {b r : List UInt8} (hx : x.may = true) (hb : b = x.bytes ++ r) :
  getT b = (x.key.data.toList, (putT x.key.data.toList).length, 0) ∧ getT (b.drop (putT x.key.data.toList).length) = (x.val.data.toList, (putT x.val.data.toList).length, 0) ∧
  ∃ k, allZ 2 (b.drop ((putT x.key.data.toList).length + (putT x.val.data.toList).length)) = ([x.till, x.flag], k, 0) := by
 have m := It.may_is hx
 have f := x.flag_bd
 have kx : x.key.data.toList.length = x.key.size := by simp
 have vx : x.val.data.toList.length = x.val.size := by simp
 have e : b = putT x.key.data.toList ++ (putT x.val.data.toList ++ (putZ x.till ++ (putZ x.flag ++ r))) := by rw [hb]; unfold It.bytes; simp only [List.append_assoc]
 have e2 : b.drop (putT x.key.data.toList).length = putT x.val.data.toList ++ (putZ x.till ++ (putZ x.flag ++ r)) := by rw [e]; exact List.drop_left
 have e3 : b.drop ((putT x.key.data.toList).length + (putT x.val.data.toList).length) = putZ x.till ++ (putZ x.flag ++ r) := by rw [← List.drop_drop, e2]; exact List.drop_left
 refine ⟨by rw [e]; exact getT_put _ _ (by omega), by rw [e2]; exact getT_put _ _ (by omega), ?_⟩
 rw [e3]
 have := allZ_puts [x.till, x.flag] r (fun n hn => by
  simp only [List.mem_cons, List.not_mem_nil, or_false] at hn
  rcases hn with rfl | rfl <;> omega)
 simp only [List.flatMap_cons, List.flatMap_nil, List.append_nil, List.append_assoc, List.length_cons, List.length_nil, Nat.zero_add, Nat.reduceAdd] at this
 exact ⟨_, this⟩
theorem dec_is {b s1 s2 : List UInt8} {k1 k2 k3 : Nat} {t g : Int} (h1 : getT b = (s1, k1, 0)) (h2 : getT (b.drop k1) = (s2, k2, 0)) (h3 : allZ 2 (b.drop (k1 + k2)) = ([t, g], k3, 0)) (hg : g = 0 ∨ g = 1) (gone : Bool) (hgo : gone = decide (g = 1)) :
  ∃ r, b = (⟨txt s1, txt s2, t, gone⟩ : It).bytes ++ r ∧ (⟨txt s1, txt s2, t, gone⟩ : It).bytes.length = k1 + k2 + k3 := by
 obtain ⟨e1, l1, -, -, -⟩ := getT_ok h1
 obtain ⟨e2, l2, -, -, -⟩ := getT_ok h2
 obtain ⟨t', g', r, e3, e4, l3, -, -, -, -⟩ := allZ2_ok h3
 injection e3 with e3 e5
 injection e5 with e5 _
 subst e3 e5
 have hfl : (⟨txt s1, txt s2, t, gone⟩ : It).flag = g := by
  unfold It.flag
  rcases hg with rfl | rfl <;> subst hgo <;> rfl
 refine ⟨r, ?_, ?_⟩
 ·unfold It.bytes
  rw [hfl]
  simp only [txt_list, List.append_assoc]
  rw [← e4, ← List.drop_drop, ← e2]
  exact e1
 ·unfold It.bytes
  rw [hfl]
  simp only [txt_list, List.length_append]
  omega
theorem all_two (W : World) (A : Option Addr) (m c q B : Nat) (l : List UInt8) (hr : Row W A (fun b => b ≠ q ∧ b ≠ q + 1) (bcells l)) (hB : Row W (some ⟨B, 0, none⟩) (fun b => b ≠ q ∧ b ≠ q + 1) [.pointer (some ⟨q, 0, none⟩), .pointer (some ⟨q + 1, 0, none⟩)])
  (h1 : Place W ⟨q, 0, none⟩) (h2 : Place W ⟨q + 1, 0, none⟩) (hm : m = l.length) (hl : l.length ≤ 1000000) (hc : l.length ≤ c) :
  Calls Tryz.prog 117 #[.slice A m c, .slice (some ⟨B, 0, none⟩) 2 2] W fun e w' => Keeps (fun b => b ≠ q ∧ b ≠ q + 1) W w' ∧
   ((∃ (er : Nat) (xs : List Int) (k : Nat), er ≠ 0 ∧ er ≤ 2 ∧ allZ 2 l = (xs, k, er) ∧ e = .returned (.tuple #[.int .i64 0, .int .i64 (er : Int)])) ∨
    (∃ (t g : Int) (k : Nat), allZ 2 l = ([t, g], k, 0) ∧ e = .returned (.tuple #[.int .i64 (k : Int), .int .i64 0]) ∧ w'.cell? ⟨q, 0, none⟩ = some (.int .i64 t) ∧ w'.cell? ⟨q + 1, 0, none⟩ = some (.int .i64 g))) := by
 subst hm
 refine (show Calls _ _ _ _ _ from all_any A (some ⟨B, 0, none⟩) c 2 (fun b => b ≠ q ∧ b ≠ q + 1) l [some ⟨q, 0, none⟩, some ⟨q + 1, 0, none⟩] W hr hB (fun a ha => by
  simp only [List.mem_cons, Option.some.injEq, List.not_mem_nil, or_false] at ha
  rcases ha with rfl | rfl
  ·exact ⟨h1, fun h => h.1 rfl⟩
  ·exact ⟨h2, fun h => h.2 rfl⟩) (by omega) hc (by simp)).mono ?_
 rintro e w' ⟨rfl, rfl⟩
 have hst : Keeps (fun b => b ≠ q ∧ b ≠ q + 1) W (stores W [some ⟨q, 0, none⟩, some ⟨q + 1, 0, none⟩] (allZ [some (⟨q, 0, none⟩ : Addr), some ⟨q + 1, 0, none⟩].length l).1) := stores_keeps _ _ _ W W (fun a ha => by
  simp only [List.mem_cons, Option.some.injEq, List.not_mem_nil, or_false] at ha
  rcases ha with rfl | rfl
  ·exact fun h => h.1 rfl
  ·exact fun h => h.2 rfl) (Keeps.refl _ W)
 refine ⟨hst, ?_⟩
 clear hst
 rw [show [some (⟨q, 0, none⟩ : Addr), some ⟨q + 1, 0, none⟩].length = 2 from rfl]
 obtain ⟨xs, k, er, hz⟩ : ∃ xs k er, allZ 2 l = (xs, k, er) := ⟨_, _, _, rfl⟩
 rw [hz]
 by_cases h0 : er = 0
 ·subst h0
  obtain ⟨t, g, r, rfl, -⟩ := allZ2_ok hz
  refine .inr ⟨t, g, k, rfl, by simp, ?_, ?_⟩
  ·obtain ⟨⟨u, hu⟩, -⟩ := h1
   have hne : (⟨q + 1, 0, none⟩ : Addr) ≠ ⟨q, 0, none⟩ := fun e => by injection e with e; omega
   show ((W.setCell ⟨q, 0, none⟩ (.int .i64 t)).setCell ⟨q + 1, 0, none⟩ (.int .i64 g)).cell? _ = _
   rw [World.cell?_setCell_other _ _ _ _ hne]
   exact World.cell?_setCell_same W _ _ hu
  ·obtain ⟨⟨u, hu⟩, -⟩ := h2.setCell (b := ⟨q, 0, none⟩) (v := .int .i64 t)
   exact World.cell?_setCell_same _ _ _ hu
 ·refine .inl ⟨er, xs, k, h0, ?_, rfl, by simp [h0]⟩
  have : ∀ n (l : List UInt8), (allZ n l).2.2 ≤ 2 := fun n => by
   induction n with
   | zero => intro l; simp [allZ]
   | succ n ih =>
    intro l
    rcases getZ_cases l with ⟨t, k1, hg, -⟩ | hg | hg
    ·rw [allZ_ok hg]; exact ih _
    ·rw [allZ_err hg (by decide)]; decide
    ·rw [allZ_err hg (by decide)]; decide
  have h3 := this 2 l
  rw [hz] at h3
  exact h3
end Go.Proofs.YticophaepapjoaaGreatDoor
namespace Go.Proofs.YticophaepapjoaaGreatDoor
open Go Go.RowKit Go.Joins Go.Shelf
attribute [local go_sem] Oper.semAt_some
def VE (u v E : Value) (m z : Nat) : Nat → World → Value → Prop
 | 0 => IsV (.agg #[u, v, E])
 | 1 => IsV (.agg #[u, v, E])
 | 2 => IsV (.int .i64 (m : Int))
 | 3 => IsV (.int .i64 (z : Int))
 | 4 => IsV (.int .i64 (z : Int))
 | _ => fun _ _ => True
theorem VE_any {u v E : Value} {m z : Nat} (i : Nat) (w w' : World) (x : Value) (hv : VE u v E m z i w x) : VE u v E m z i w' x := by
 match i, hv with
 | 0, hv => exact hv
 | 1, hv => exact hv
 | 2, hv => exact hv
 | 3, hv => exact hv
 | 4, hv => exact hv
 | _ + 5, _ => trivial
set_option maxRecDepth 100000 in
theorem end_any (w : World) (u v : Value) (A : Option Addr) (c : Nat) (G : Nat → Prop) (rs : List LRec) (h1 : u.oneCell' = true) (h2 : v.oneCell' = true) (hr : Row w A G (endsC rs)) (hn : rs.length ≤ 4096) :
  Calls Tryz.prog 136 #[.agg #[u, v, .slice A rs.length c]] w fun e w' => e = .returned (.int .i64 (endAt rs rs.length : Int)) ∧ Kp w w' := by
 have HR := Lib.hid hr
 clear hr
 obtain ⟨m, hm⟩ : ∃ m, rs.length = m := ⟨_, rfl⟩
 have HM := Lib.hid hm
 rw [hm] at hn ⊢
 clear hm
 go_enter Tryz.func136, Tryz.ntmps136
 go_wp2_with fail
 have HK0 := Lib.hid (show Kp w (w.alloc (.cells #[u, v, .slice A m c] 179)) from (Keeps.refl _ w).alloc _)
 have HB := Lib.hid (show (w.alloc (.cells #[u, v, .slice A m c] 179)).heap[w.heap.size]? = some (.cells #[u, v, .slice A m c] 179 (0, 0)) from heap_alloc_new w _)
 have HZ := Lib.hid (show w.heap.size < (w.alloc (.cells #[u, v, .slice A m c] 179)).heap.size from by simp)
 generalize w.alloc (.cells #[u, v, .slice A m c] 179) = w0 at HK0 HB HZ ⊢
 have HS := Lib.hid (show ∀ w', Kp w w' → Calls Tryz.prog 149 #[.agg #[u, v, .slice A m c], .int .i64 (m : Int)] w' fun e w2 => e = .returned (.int .i64 (endAt rs m : Int)) ∧ Kp w' w2 from fun w' hk => by
  have := start_any w' u v A c G rs h1 h2 (HR.out.keep (hk.mono fun _ _ _ => trivial)) (by rw [HM.out]; exact hn) m (by rw [HM.out]; omega)
  rw [HM.out] at this
  exact this)
 refine wp_region_guard (R := Kp) (V := VE u v (.slice A m c) m (endAt rs m)) (w0 := w0) GE (by kernel_rfl) (fun w => Keeps.refl _ w) (fun _ _ _ h k => h.trans k) (fun i w w' v _ hv => VE_any i w w' v hv) (by kernel_rfl) GE_is (fun i o ho hw => (all_wanted (by kernel_rfl) ho hw).elim) ((Keeps.refl _ w0).drew) (each_of ?_) ?_
 ·refine ⟨?_, ?_, ?_, ?_, ?_, trivial⟩ <;> intro hw a1 w3 L
  ·have hb := (L.rel.block w.heap.size trivial HZ.out).trans HB.out
   exact kp_lG ((cell_of_block hb 0).trans rfl) ((cell_of_block hb 1).trans rfl) ((cell_of_block hb 2).trans rfl) rfl (L.old 1 (by kernel_rfl))
  ·have hb := (L.rel.block w.heap.size trivial HZ.out).trans HB.out
   exact kp_lG ((cell_of_block hb 0).trans rfl) ((cell_of_block hb 1).trans rfl) ((cell_of_block hb 2).trans rfl) rfl (L.old 1 (by kernel_rfl))
  ·have e0 : a1.eval (.tmp 4) = .agg #[u, v, .slice A m c] := L.val 1 4 (by kernel_rfl) (by kernel_rfl)
   have hf : a1.eval (.func 148) = .func (.func 148) #[] #[] := rfl
   refine kp_enter (f := 148) (args := #[.agg #[u, v, .slice A m c]]) ?_ (count_any w3 u v A m c h1 h2) ?_
   ·clear L
    generalize a1.eval = ρ at e0 hf ⊢
    unfold execOp
    go_simp
   ·rintro e w' ⟨rfl, hk⟩
    exact ⟨_, rfl, hk, rfl⟩
  ·have e0 : a1.eval (.tmp 3) = .agg #[u, v, .slice A m c] := L.val 0 3 (by kernel_rfl) (by kernel_rfl)
   have e1 : a1.eval (.tmp 5) = .int .i64 (m : Int) := L.val 2 5 (by kernel_rfl) (by kernel_rfl)
   have hf : a1.eval (.func 149) = .func (.func 149) #[] #[] := rfl
   refine kp_enter (f := 149) (args := #[.agg #[u, v, .slice A m c], .int .i64 (m : Int)]) ?_ (HS.out w3 (HK0.out.trans L.rel)) ?_
   ·clear L
    generalize a1.eval = ρ at e0 e1 hf ⊢
    unfold execOp
    go_simp
   ·rintro e w' ⟨rfl, hk⟩
    exact ⟨_, rfl, hk, rfl⟩
  ·exact kp_assign rfl (L.val 3 6 (by kernel_rfl) (by kernel_rfl))
 ·intro vs w4 hk4 hlen4 hv
  match vs, hlen4 with
  | [v0, v1, v2, v3, v4], _ =>
   have e4 : v4 = .int .i64 (endAt rs m : Int) := hv 4 2 (by kernel_rfl)
   clear hv
   subst e4
   simp only [putAll, List.map, Act.put, List.setIfInBounds_toArray, List.set_cons_succ, List.set_cons_zero, Exit.then]
   go_wp2_with fail
   go_ret
   exact ⟨rfl, HK0.out.trans hk4⟩
set_option maxRecDepth 100000 in
theorem chunk_in (F : Fence) (n : Nat) (hfn : F.fn 137) (hro : F.round = none) (v : Value) (hv : v.oneCell' = true) (w : World) :
  CallsIn F n Tryz.prog 137 #[v, .int .i64 53] w fun e w' => ∃ Bs Bn, e = .returned (.func (.func 172) #[] #[.pointer (some ⟨Bs, 0, none⟩), .pointer (some ⟨Bn, 0, none⟩)]) ∧
   w'.cell? ⟨Bs, 0, none⟩ = some v ∧ w'.cell? ⟨Bn, 0, none⟩ = some (.int .i64 53) ∧ w.heap.size ≤ Bs ∧ w.heap.size ≤ Bn ∧ Kp w w' := by
 refine callsIn_of_wp Tryz.func137 rfl hfn ?_ hro
 simp only [Tryz.ntmps137, List.size_toArray, List.length_cons, List.length_nil, Nat.reduceAdd, Nat.reduceSub, Array.replicate_succ, Array.replicate_zero, List.push_toArray, List.append_toArray, List.nil_append, List.cons_append]
 gi_wp2
 go_ret
 refine ⟨_, _, rfl, ?_, ?_, Nat.le_refl _, Nat.le_succ _, ((Keeps.refl _ w).alloc _).alloc _⟩
 ·rw [World.cell?_alloc_lt _ _ _ (by simp), World.cell?_alloc_at _ _ _ _ rfl]; rfl
 ·rw [World.cell?_alloc_at _ _ _ _ (by simp)]; rfl
theorem chunk_stops (F : Fence) (n : Nat) (hfn : F.fn 172) (hro : F.round = none) (hn : 1 ≤ n) (Bs Bn g o len cap : Nat) (hlc : len ≤ cap) (hlm : len ≤ 1000000000000) (w : World)
  (hBs : w.cell? ⟨Bs, 0, none⟩ = some (.slice (some ⟨g, o, none⟩) len cap)) (hBn : w.cell? ⟨Bn, 0, none⟩ = some (.int .i64 53)) :
  SeqStopsK F n Tryz.prog 172 #[.pointer (some ⟨Bs, 0, none⟩), .pointer (some ⟨Bn, 0, none⟩)] (encCh g o len) (KpB Bs Bn) (fun ys => ys = List.range (chunks len)) (fun pre => ∃ k, k ≤ chunks len ∧ pre = List.range k) (chunks len) w := fun l J Jx W hW hJ _ hY h0 =>
 chunk1_in F n hfn hro hn l Bs Bn g o len cap hlc hlm J Jx (fun s W' h => hJ s W' W'.drew none h ⟨rfl, rfl, rfl, Nat.le_refl _, fun _ _ _ => rfl⟩ (fun r e => by cases e)) hY W
  ((hW.cell (p := ⟨Bs, 0, none⟩) (World.block_lt_of_cell? w _ hBs)).trans hBs) ((hW.cell (p := ⟨Bn, 0, none⟩) (World.block_lt_of_cell? w _ hBn)).trans hBn) h0
end Go.Proofs.YticophaepapjoaaGreatDoor
