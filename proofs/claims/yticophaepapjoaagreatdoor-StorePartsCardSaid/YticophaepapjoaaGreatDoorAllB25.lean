/-
  ItemEncs, ItemDec, ItemDecs: texts of mine, joined.
-/
import Derived.Test.YticophaepapjoaaGreatDoorAllB13
import Derived.Test.YticophaepapjoaaGreatDoorAllB15
import Derived.Test.YticophaepapjoaaGreatDoorAllB10
open Go.Lib renaming hid → Hd
set_option maxRecDepth 100000
set_option maxHeartbeats 8000000
namespace Go.Proofs.YticophaepapjoaaGreatDoor
open Go Go.RowKit Go.Joins
theorem iencode (w : World) (A : Option Addr) (cap : Nat) (l : List It) (hA : ItsAt w A (fun _ => True) l) (_hl : l.length ≤ cap) (hc : cap ≤ maxLen) (hn : l.length ≤ 1000) (hf : ∀ x ∈ l, x.fits) :
  Calls Tryz.prog 45 #[.slice A l.length cap] w fun e w' => ∃ B k, e = .returned (.slice B (encs l).length k) ∧ (encs l).length ≤ k ∧ k ≤ maxLen ∧
   Row w' B (fun b => w.heap.size ≤ b ∧ b < w'.heap.size) (bcells (encs l)) ∧ Keeps (fun _ => True) w w' := by
 have hc' := hc
 unfold maxLen at hc'
 have HFIN := Hd (show ∀ (v : Value) (wr : World), OwnB wr w.heap.size v (encs l) → Keeps (fun _ => True) w wr →
   ∃ B k, Ending.returned v = .returned (.slice B (encs l).length k) ∧ (encs l).length ≤ k ∧ k ≤ maxLen ∧ Row wr B (fun b => w.heap.size ≤ b ∧ b < wr.heap.size) (bcells (encs l)) ∧ Keeps (fun _ => True) w wr from fun v wr ho hkp => by
  have h2 := ho.2
  obtain ⟨B, k, rfl, -, hr⟩ := own_slice ho
  refine ⟨B, k, rfl, ?_, ?_, hr, hkp⟩
  ·rcases h2 with ⟨e, h0⟩ | ⟨g, c, cur, e, -, -, h1, h2, -⟩
   ·omega
   ·injection e with _ _ e; omega
  ·rcases h2 with ⟨e, h0⟩ | ⟨g, c, cur, e, -, -, h1, h2, -⟩
   ·injection e with _ _ e; subst e; decide
   ·injection e with _ _ e; omega)
 have HA := Hd hA
 have HF := Hd hf
 clear hA hf hc
 go_enter Tryz.func45, Tryz.ntmps45
 go_wp2
 go_loopw [3, 8] (fun v i wr => ∃ k : Nat, k ≤ l.length ∧ i = .int .i64 k ∧ (l.take k).all It.may = true ∧ OwnB wr w.heap.size v (bytesOf (l.take k)) ∧ Keeps (fun _ => True) w wr) (fun _ i _ => l.length - (intOf i).toNat)
 case atStart => exact ⟨0, Nat.zero_le _, rfl, rfl, World.ownsRow_nil _ _ _ _, Keeps.refl _ _⟩
 case round =>
  obtain ⟨k, hk, rfl, hall, hown, hkp⟩ := hrel
  have hwz := hkp.size
  have hblen := bytesOf_len hall
  rw [List.length_take, Nat.min_eq_left hk] at hblen
  have HW := Hd hown
  have HK := Hd hkp
  have HALL := Hd hall
  clear hown hkp hall
  by_cases hlt : k < l.length
  ·have t1 : decide ((k : Int) < (l.length : Int)) = true := by simp; omega
   obtain ⟨b, o, rfl, hb, d0, d1, d2, d3⟩ := HA.out k hlt
   have hfx := HF.out _ (List.getElem_mem hlt)
   have HN := Hd (take_bytes l k hlt)
   have HT := Hd (take_may l k hlt)
   have HNO := Hd (not_may hlt)
   generalize l[k] = x at d0 d1 d2 d3 hfx HN HT HNO
   have HC := Hd (show ∀ W, Keeps (fun _ => True) w W → W.cell? ⟨b, o + k * 4, none⟩ = some (.string x.key) ∧ W.cell? ⟨b, o + k * 4 + 1, none⟩ = some (.string x.val) ∧ W.cell? ⟨b, o + k * 4 + 2, none⟩ = some (.int .i64 x.till) ∧ W.cell? ⟨b, o + k * 4 + 3, none⟩ = some (.bool x.gone) from
    fun W h => ⟨h.cell d0 trivial, h.cell d1 trivial, h.cell d2 trivial, h.cell d3 trivial⟩)
   clear d0 d1 d2 d3
   obtain ⟨c0, c1, c2, c3⟩ := HC.out wr HK.out
   have RM := Hd (fun W => imay W x hfx)
   have REN := Hd (fun W h => iencode1 W x h)
   clear hfx
   go_wp2_with fail
   refine (RM.out _).mono ?_
   rintro e w1 ⟨rfl, hk1⟩
   have hx := hk1.block wr.heap.size trivial (by simp)
   have hx2 := hx.trans (heap_alloc_new wr (.cells #[.string x.key, .string x.val, .int .i64 x.till, .bool x.gone] 40))
   have HK1 := Hd ((HK.out.alloc (.cells #[.string x.key, .string x.val, .int .i64 x.till, .bool x.gone] 40)).trans hk1)
   have HW1 := Hd (((Keeps.refl (fun _ => True) wr).alloc _).trans hk1 |>.own HW.out fun _ _ => trivial)
   have e0 := (cell_of_block hx2 0).trans rfl
   have e1 := (cell_of_block hx2 1).trans rfl
   have e2 := (cell_of_block hx2 2).trans rfl
   have e3 := (cell_of_block hx2 3).trans rfl
   clear hk1 hx hx2 c0 c1 c2 c3 RM
   rcases hm : x.may with _ | _
   ·have HM := Hd hm
    clear hm
    go_wp2_with fail
    go_ret
    exact HFIN.out _ _ (by rw [HNO.out HM.out]; exact World.ownsRow_nil _ _ _ _) HK1.out
   ·have hmb := It.bytes_len hm
    have HM := Hd hm
    clear hm
    go_wp2_with fail
    refine (REN.out _ HM.out).mono ?_
    rintro e w2 ⟨v2, rfl, ho2, hk2⟩
    have HSRC := Hd (src_own ho2)
    have HW2 := Hd (hk2.own HW1.out fun _ _ => trivial)
    have HK2 := Hd (HK1.out.trans hk2)
    have hz2 := HK2.out.size
    clear ho2 hk2 HW1 HK1 e0 e1 e2 e3 REN
    go_wp2_with (at_builtin; refine byte_elem.list_append rfl (.tmp 15) (.tmp 17) _ rfl rfl HW2.out rfl HSRC.out ?c3 ?c4 ?c5 ?_)
    case c3 => unfold maxLen; omega
    case c4 => omega
    case c5 => omega
    intro v3 w3 ho3 hg3 hb3
    have ho4 := OwnB.snoc ho3 (by rw [List.length_append]) rfl
    rw [← HN.out] at ho4
    have H1 := Hd ho4
    have H2 := Hd (HK2.out.grown hg3 fun j hj => (HW2.out.lt j hj).1)
    have H3 := Hd (show (l.take (k + 1)).all It.may = true from by rw [HT.out, HALL.out, HM.out]; rfl)
    clear ho3 hg3 hb3 ho4 HW2 HK2 HSRC
    go_wp2_with fail
    go_roundw
    case rel => exact ⟨k + 1, by omega, by go_num, H3.out, H1.out, H2.out⟩
    case measure => simp [intOf]; omega
  ·have t1 : decide ((k : Int) < (l.length : Int)) = false := by simp; omega
   obtain rfl : k = l.length := by omega
   have he : OwnB wr w.heap.size u3 (encs l) := by
    have h1 := HALL.out
    have h2 := HW.out
    rw [List.take_of_length_le (Nat.le_refl _)] at h1 h2
    rw [encs_may h1]; exact h2
   have HE := Hd he
   clear he
   go_wp2_with fail
   go_ret
   exact HFIN.out _ _ HE.out HK.out
theorem getT_ok {l s : List UInt8} {k : Nat} (h : getT l = (s, k, 0)) : l = putT s ++ l.drop k ∧ k = (putT s).length ∧ s.length ≤ 65536 ∧ k ≤ l.length ∧ 0 < k := by
 rcases getZ_cases l with ⟨n, k', hg, hk0, hk10, hkl, hn1, hn2⟩ | hg | hg
 ·obtain ⟨r, hr, hk, -, -⟩ := getZ_ok l n k' hg
  by_cases hf : n < 0 ∨ 65536 < n
  ·rw [getT_form hg hf] at h; cases h
  ·by_cases hm : (l.length : Int) < k' + n
   ·rw [getT_more hg hf hm] at h; cases h
   ·rw [getT_got hg hf hm] at h
    injection h with h1 h2
    injection h2 with h2 _
    obtain ⟨m, rfl⟩ := Int.eq_ofNat_of_zero_le (show 0 ≤ n by omega)
    rw [Int.toNat_natCast] at h1 h2
    have hd : l.drop k' = r := by rw [hr, hk]; exact List.drop_left
    have hlen : l.length = k' + r.length := by
     conv => lhs; rw [hr]
     rw [List.length_append, hk]
    have hsl : s.length = m := by rw [← h1, List.length_take, hd]; omega
    have hp : putT s = putZ (m : Int) ++ s := by unfold putT; rw [hsl]
    refine ⟨?_, ?_, by omega, by omega, by omega⟩
    ·rw [hp, ← h2, ← h1, hd, ← List.drop_drop, hd, List.append_assoc, List.take_append_drop]
     exact hr
    ·rw [hp, List.length_append, hsl, ← hk, h2]
 ·rw [getT_err hg (by decide)] at h; cases h
 ·rw [getT_err hg (by decide)] at h; cases h
theorem allZ2_ok {l : List UInt8} {xs : List Int} {k : Nat} (h : allZ 2 l = (xs, k, 0)) : ∃ t g r, xs = [t, g] ∧ l = putZ t ++ (putZ g ++ r) ∧ k = (putZ t).length + (putZ g).length ∧ -9223372036854775808 ≤ t ∧ t < 9223372036854775808 ∧ -9223372036854775808 ≤ g ∧ g < 9223372036854775808 := by
 rcases getZ_cases l with ⟨t, k1, hg, hk0, hk10, hkl, hn1, hn2⟩ | hg | hg
 ·obtain ⟨r, hr, hk, -, -⟩ := getZ_ok l t k1 hg
  rw [allZ_ok hg] at h
  have hd : l.drop k1 = r := by rw [hr, hk]; exact List.drop_left
  rw [hd] at h
  rcases getZ_cases r with ⟨g, k2, hg2, -, -, -, hm1, hm2⟩ | hg2 | hg2
  ·obtain ⟨r2, hr2, hk2, -, -⟩ := getZ_ok r g k2 hg2
   rw [allZ_ok hg2] at h
   simp only [allZ] at h
   injection h with h1 h2
   injection h2 with h2 _
   exact ⟨t, g, r2, h1.symm, by rw [← hr2]; exact hr, by rw [← h2, ← hk, ← hk2]; omega, hn1, hn2, hm1, hm2⟩
  ·rw [allZ_err hg2 (by decide)] at h; cases h
  ·rw [allZ_err hg2 (by decide)] at h; cases h
 ·rw [allZ_err hg (by decide)] at h; cases h
 ·rw [allZ_err hg (by decide)] at h; cases h
theorem dec_of {x : It} {b r : List UInt8} (hx : x.may = true) (hb : b = x.bytes ++ r) :
  getT b = (x.key.data.toList, (putT x.key.data.toList).length, 0) ∧ getT (b.drop (putT x.key.data.toList).length) = (x.val.data.toList, (putT x.val.data.toList).length, 0) ∧
  ∃ k, allZ 2 (b.drop ((putT x.key.data.toList).length + (putT x.val.data.toList).length)) = ([x.till, x.flag], k, 0) := by
 have m := It.may_is hx
 have f := x.flag_bd
 have kx : x.key.data.toList.length = x.key.size := by simp
 have vx : x.val.data.toList.length = x.val.size := by simp
 have e : b = putT x.key.data.toList ++ (putT x.val.data.toList ++ (putZ x.till ++ (putZ x.flag ++ r))) := by rw [hb]; unfold It.bytes; simp only [List.append_assoc]
 have e2 : b.drop (putT x.key.data.toList).length = putT x.val.data.toList ++ (putZ x.till ++ (putZ x.flag ++ r)) := by rw [e]; exact List.drop_left
 have e3 : b.drop ((putT x.key.data.toList).length + (putT x.val.data.toList).length) = putZ x.till ++ (putZ x.flag ++ r) := by rw [← List.drop_drop, e2]; exact List.drop_left
 refine ⟨by rw [e]; exact getT_put _ _ (by omega), by rw [e2]; exact getT_put _ _ (by omega), ?_⟩
 rw [e3]
 have := allZ_puts [x.till, x.flag] r (fun n hn => by
  simp only [List.mem_cons, List.not_mem_nil, or_false] at hn
  rcases hn with rfl | rfl <;> omega)
 simp only [List.flatMap_cons, List.flatMap_nil, List.append_nil, List.append_assoc, List.length_cons, List.length_nil, Nat.zero_add, Nat.reduceAdd] at this
 exact ⟨_, this⟩
theorem dec_is {b s1 s2 : List UInt8} {k1 k2 k3 : Nat} {t g : Int} (h1 : getT b = (s1, k1, 0)) (h2 : getT (b.drop k1) = (s2, k2, 0)) (h3 : allZ 2 (b.drop (k1 + k2)) = ([t, g], k3, 0)) (hg : g = 0 ∨ g = 1) (gone : Bool) (hgo : gone = decide (g = 1)) :
  ∃ r, b = (⟨txt s1, txt s2, t, gone⟩ : It).bytes ++ r ∧ (⟨txt s1, txt s2, t, gone⟩ : It).bytes.length = k1 + k2 + k3 := by
 obtain ⟨e1, l1, -, -, -⟩ := getT_ok h1
 obtain ⟨e2, l2, -, -, -⟩ := getT_ok h2
 obtain ⟨t', g', r, e3, e4, l3, -, -, -, -⟩ := allZ2_ok h3
 injection e3 with e3 e5
 injection e5 with e5 _
 subst e3 e5
 have hfl : (⟨txt s1, txt s2, t, gone⟩ : It).flag = g := by
  unfold It.flag
  rcases hg with rfl | rfl <;> subst hgo <;> rfl
 refine ⟨r, ?_, ?_⟩
 ·unfold It.bytes
  rw [hfl]
  simp only [txt_list, List.append_assoc]
  rw [← e4, ← List.drop_drop, ← e2]
  exact e1
 ·unfold It.bytes
  rw [hfl]
  simp only [txt_list, List.length_append]
  omega
theorem all_two (W : World) (A : Option Addr) (m c q B : Nat) (l : List UInt8) (hr : Row W A (fun b => b ≠ q ∧ b ≠ q + 1) (bcells l)) (hB : Row W (some ⟨B, 0, none⟩) (fun b => b ≠ q ∧ b ≠ q + 1) [.pointer (some ⟨q, 0, none⟩), .pointer (some ⟨q + 1, 0, none⟩)])
  (h1 : Place W ⟨q, 0, none⟩) (h2 : Place W ⟨q + 1, 0, none⟩) (hm : m = l.length) (hl : l.length ≤ 1000000) (hc : l.length ≤ c) :
  Calls Tryz.prog 117 #[.slice A m c, .slice (some ⟨B, 0, none⟩) 2 2] W fun e w' => Keeps (fun b => b ≠ q ∧ b ≠ q + 1) W w' ∧
   ((∃ (er : Nat) (xs : List Int) (k : Nat), er ≠ 0 ∧ er ≤ 2 ∧ allZ 2 l = (xs, k, er) ∧ e = .returned (.tuple #[.int .i64 0, .int .i64 (er : Int)])) ∨
    (∃ (t g : Int) (k : Nat), allZ 2 l = ([t, g], k, 0) ∧ e = .returned (.tuple #[.int .i64 (k : Int), .int .i64 0]) ∧ w'.cell? ⟨q, 0, none⟩ = some (.int .i64 t) ∧ w'.cell? ⟨q + 1, 0, none⟩ = some (.int .i64 g))) := by
 subst hm
 refine (show Calls _ _ _ _ _ from all_any A (some ⟨B, 0, none⟩) c 2 (fun b => b ≠ q ∧ b ≠ q + 1) l [some ⟨q, 0, none⟩, some ⟨q + 1, 0, none⟩] W hr hB (fun a ha => by
  simp only [List.mem_cons, Option.some.injEq, List.not_mem_nil, or_false] at ha
  rcases ha with rfl | rfl
  ·exact ⟨h1, fun h => h.1 rfl⟩
  ·exact ⟨h2, fun h => h.2 rfl⟩) (by omega) hc (by simp)).mono ?_
 rintro e w' ⟨rfl, rfl⟩
 have hst : Keeps (fun b => b ≠ q ∧ b ≠ q + 1) W (stores W [some ⟨q, 0, none⟩, some ⟨q + 1, 0, none⟩] (allZ [some (⟨q, 0, none⟩ : Addr), some ⟨q + 1, 0, none⟩].length l).1) := stores_keeps _ _ _ W W (fun a ha => by
  simp only [List.mem_cons, Option.some.injEq, List.not_mem_nil, or_false] at ha
  rcases ha with rfl | rfl
  ·exact fun h => h.1 rfl
  ·exact fun h => h.2 rfl) (Keeps.refl _ W)
 refine ⟨hst, ?_⟩
 clear hst
 rw [show [some (⟨q, 0, none⟩ : Addr), some ⟨q + 1, 0, none⟩].length = 2 from rfl]
 obtain ⟨xs, k, er, hz⟩ : ∃ xs k er, allZ 2 l = (xs, k, er) := ⟨_, _, _, rfl⟩
 rw [hz]
 by_cases h0 : er = 0
 ·subst h0
  obtain ⟨t, g, r, rfl, -⟩ := allZ2_ok hz
  refine .inr ⟨t, g, k, rfl, by simp, ?_, ?_⟩
  ·obtain ⟨⟨u, hu⟩, -⟩ := h1
   have hne : (⟨q + 1, 0, none⟩ : Addr) ≠ ⟨q, 0, none⟩ := fun e => by injection e with e; omega
   show ((W.setCell ⟨q, 0, none⟩ (.int .i64 t)).setCell ⟨q + 1, 0, none⟩ (.int .i64 g)).cell? _ = _
   rw [World.cell?_setCell_other _ _ _ _ hne]
   exact World.cell?_setCell_same W _ _ hu
  ·obtain ⟨⟨u, hu⟩, -⟩ := h2.setCell (b := ⟨q, 0, none⟩) (v := .int .i64 t)
   exact World.cell?_setCell_same _ _ _ hu
 ·refine .inl ⟨er, xs, k, h0, ?_, rfl, by simp [h0]⟩
  have : ∀ n (l : List UInt8), (allZ n l).2.2 ≤ 2 := fun n => by
   induction n with
   | zero => intro l; simp [allZ]
   | succ n ih =>
    intro l
    rcases getZ_cases l with ⟨t, k1, hg, -⟩ | hg | hg
    ·rw [allZ_ok hg]; exact ih _
    ·rw [allZ_err hg (by decide)]; decide
    ·rw [allZ_err hg (by decide)]; decide
  have h3 := this 2 l
  rw [hz] at h3
  exact h3
def itZ : Array Value := #[.string ⟨#[]⟩, .string ⟨#[]⟩, .int .i64 0, .bool false]
def DecPost (b : List UInt8) (e : Ending) : Prop :=
 (∃ (x : It) (r : List UInt8), e = .returned (.tuple #[.agg #[.string x.key, .string x.val, .int .i64 x.till, .bool x.gone], .int .i64 (x.bytes.length : Int), .int .i64 0]) ∧ x.may = true ∧ b = x.bytes ++ r) ∨
 (∃ er : Nat, er ≠ 0 ∧ er ≤ 2 ∧ e = .returned (.tuple #[.agg #[.string ⟨#[]⟩, .string ⟨#[]⟩, .int .i64 0, .bool false], .int .i64 0, .int .i64 (er : Int)]) ∧ ∀ (x : It) (r : List UInt8), x.may = true → b ≠ x.bytes ++ r)
theorem getT_e {l s : List UInt8} {k er : Nat} (h : getT l = (s, k, er)) : er ≤ 2 := by
 rcases getZ_cases l with ⟨n, k', hg, -⟩ | hg | hg
 ·by_cases hf : n < 0 ∨ 65536 < n
  ·rw [getT_form hg hf] at h; cases h; decide
  ·by_cases hm : (l.length : Int) < k' + n
   ·rw [getT_more hg hf hm] at h; cases h; decide
   ·rw [getT_got hg hf hm] at h; cases h; decide
 ·rw [getT_err hg (by decide)] at h; cases h; decide
 ·rw [getT_err hg (by decide)] at h; cases h; decide
theorem getT_0 : getT [] = ([], 0, 2) := rfl
theorem res4 (w W : World) (hb : W.heap[w.heap.size]? = some (.cells itZ 40 (0, 0))) (hk : Kp w W) : RowKit.Hid (∀ v0 v1 v2 v3,
  ((((W.setCell ⟨w.heap.size, 0, none⟩ v0).setCell ⟨w.heap.size, 1, none⟩ v1).setCell ⟨w.heap.size, 2, none⟩ v2).setCell ⟨w.heap.size, 3, none⟩ v3).cell? ⟨w.heap.size, 0, none⟩ = some v0 ∧
  ((((W.setCell ⟨w.heap.size, 0, none⟩ v0).setCell ⟨w.heap.size, 1, none⟩ v1).setCell ⟨w.heap.size, 2, none⟩ v2).setCell ⟨w.heap.size, 3, none⟩ v3).cell? ⟨w.heap.size, 1, none⟩ = some v1 ∧
  ((((W.setCell ⟨w.heap.size, 0, none⟩ v0).setCell ⟨w.heap.size, 1, none⟩ v1).setCell ⟨w.heap.size, 2, none⟩ v2).setCell ⟨w.heap.size, 3, none⟩ v3).cell? ⟨w.heap.size, 2, none⟩ = some v2 ∧
  ((((W.setCell ⟨w.heap.size, 0, none⟩ v0).setCell ⟨w.heap.size, 1, none⟩ v1).setCell ⟨w.heap.size, 2, none⟩ v2).setCell ⟨w.heap.size, 3, none⟩ v3).cell? ⟨w.heap.size, 3, none⟩ = some v3 ∧
  Kp w ((((W.setCell ⟨w.heap.size, 0, none⟩ v0).setCell ⟨w.heap.size, 1, none⟩ v1).setCell ⟨w.heap.size, 2, none⟩ v2).setCell ⟨w.heap.size, 3, none⟩ v3)) := Hd fun v0 v1 v2 v3 => by
 have h1 := block_setCell (block_setCell (block_setCell (block_setCell hb (i := 0) v0) (i := 1) v1) (i := 2) v2) (i := 3) v3
 exact ⟨(cell_of_block h1 0).trans rfl, (cell_of_block h1 1).trans rfl, (cell_of_block h1 2).trans rfl, (cell_of_block h1 3).trans rfl,
  (((hk.setCell (.inl (Nat.le_refl _)) _).setCell (.inl (Nat.le_refl _)) _).setCell (.inl (Nat.le_refl _)) _).setCell (.inl (Nat.le_refl _)) _⟩
theorem res4a (w W : World) (hb : W.heap[w.heap.size]? = some (.cells itZ 40 (0, 0))) (hk : Kp w W) (ob : Obj) : RowKit.Hid (∀ v0 v1 v2 v3,
  (((((W.setCell ⟨w.heap.size, 0, none⟩ v0).setCell ⟨w.heap.size, 1, none⟩ v1).setCell ⟨w.heap.size, 2, none⟩ v2).setCell ⟨w.heap.size, 3, none⟩ v3).alloc ob).cell? ⟨w.heap.size, 0, none⟩ = some v0 ∧
  (((((W.setCell ⟨w.heap.size, 0, none⟩ v0).setCell ⟨w.heap.size, 1, none⟩ v1).setCell ⟨w.heap.size, 2, none⟩ v2).setCell ⟨w.heap.size, 3, none⟩ v3).alloc ob).cell? ⟨w.heap.size, 1, none⟩ = some v1 ∧
  (((((W.setCell ⟨w.heap.size, 0, none⟩ v0).setCell ⟨w.heap.size, 1, none⟩ v1).setCell ⟨w.heap.size, 2, none⟩ v2).setCell ⟨w.heap.size, 3, none⟩ v3).alloc ob).cell? ⟨w.heap.size, 2, none⟩ = some v2 ∧
  (((((W.setCell ⟨w.heap.size, 0, none⟩ v0).setCell ⟨w.heap.size, 1, none⟩ v1).setCell ⟨w.heap.size, 2, none⟩ v2).setCell ⟨w.heap.size, 3, none⟩ v3).alloc ob).cell? ⟨w.heap.size, 3, none⟩ = some v3 ∧
  Kp w (((((W.setCell ⟨w.heap.size, 0, none⟩ v0).setCell ⟨w.heap.size, 1, none⟩ v1).setCell ⟨w.heap.size, 2, none⟩ v2).setCell ⟨w.heap.size, 3, none⟩ v3).alloc ob)) := Hd fun v0 v1 v2 v3 => by
 obtain ⟨h0, h1, h2, h3, h4⟩ := (res4 w W hb hk).out v0 v1 v2 v3
 have hk2 : Kp ((((W.setCell ⟨w.heap.size, 0, none⟩ v0).setCell ⟨w.heap.size, 1, none⟩ v1).setCell ⟨w.heap.size, 2, none⟩ v2).setCell ⟨w.heap.size, 3, none⟩ v3) (((((W.setCell ⟨w.heap.size, 0, none⟩ v0).setCell ⟨w.heap.size, 1, none⟩ v1).setCell ⟨w.heap.size, 2, none⟩ v2).setCell ⟨w.heap.size, 3, none⟩ v3).alloc ob) := (Keeps.refl _ _).alloc _
 exact ⟨hk2.cell h0 trivial, hk2.cell h1 trivial, hk2.cell h2 trivial, hk2.cell h3 trivial, h4.trans hk2⟩
theorem res4u (w W : World) (hb : W.heap[w.heap.size]? = some (.cells itZ 40 (0, 0))) : W.frozen? ⟨w.heap.size, 0, none⟩ = false ∧ W.frozen? ⟨w.heap.size, 1, none⟩ = false ∧ W.frozen? ⟨w.heap.size, 2, none⟩ = false ∧ W.frozen? ⟨w.heap.size, 3, none⟩ = false ∧
  W.cell? ⟨w.heap.size, 0, none⟩ = some (.string ⟨#[]⟩) ∧ W.cell? ⟨w.heap.size, 1, none⟩ = some (.string ⟨#[]⟩) ∧ W.cell? ⟨w.heap.size, 2, none⟩ = some (.int .i64 0) ∧ W.cell? ⟨w.heap.size, 3, none⟩ = some (.bool false) :=
 ⟨unfrozen_of_block hb 0, unfrozen_of_block hb 1, unfrozen_of_block hb 2, unfrozen_of_block hb 3, (cell_of_block hb 0).trans rfl, (cell_of_block hb 1).trans rfl, (cell_of_block hb 2).trans rfl, (cell_of_block hb 3).trans rfl⟩
theorem cut_row {w : World} {g o k c n : Nat} {F : Nat → Prop} {l : List UInt8} (h : Row w (some ⟨g, o, none⟩) F (bcells l)) (hn : l.length = n) (hk : k ≤ n) (hc : n ≤ c) (hne : c ≠ k) : Row w (some ⟨g, o + k, none⟩) F (bcells (l.drop k)) := by
 have hr := h.cut (k := k) (cap := c) (by rw [bcells_len]; omega) (by rw [bcells_len]; omega)
 rw [if_neg hne, bcells, ← List.map_drop] at hr
 simp only [Option.map_some, WideShapes.add_plain] at hr
 exact hr
theorem place_new (W : World) (q : Nat) (n : Int) (h : W.heap[q]? = some (.cells #[.int .i64 n] 2 (0, 0))) : Place W ⟨q, 0, none⟩ := ⟨⟨_, (cell_of_block h 0).trans rfl⟩, unfrozen_of_block h 0⟩
theorem itkeeps_over {G : Nat → Prop} {w W w' : World} (h : Kp w W) (hk : Keeps G W w') (hG : ∀ b, b < w.heap.size → G b) : Kp w w' :=
 ⟨hk.os.trans h.os, hk.tape.trans h.tape, hk.output.trans h.output, Nat.le_trans h.size hk.size, fun b _ hb => (hk.block b (hG b hb) (Nat.lt_of_lt_of_le hb h.size)).trans (h.block b trivial hb)⟩
theorem it_of {x : It} {s1 s2 : List UInt8} {t g : Int} {gone : Bool} (h1 : x.key.data.toList = s1) (h2 : x.val.data.toList = s2) (h3 : x.till = t) (h4 : x.flag = g) (hg : gone = decide (g = 1)) : x = ⟨txt s1, txt s2, t, gone⟩ := by
 obtain ⟨k, v, tt, gg⟩ := x
 simp only at h1 h2 h3
 have e1 : k = txt s1 := data_inj (by rw [h1, txt_list])
 have e2 : v = txt s2 := data_inj (by rw [h2, txt_list])
 have e4 : gg = gone := by
  subst hg h4
  unfold It.flag
  cases gg <;> rfl
 rw [e1, e2, h3, e4]
theorem all_here (w0 : World) (A : Option Addr) (m c : Nat) (l : List UInt8) (hr : Row w0 A (fun _ => True) (bcells l)) (hm : m = l.length) (hl : l.length ≤ 1000000) (hc : l.length ≤ c) :
  Calls Tryz.prog 117 #[.slice A m c, .slice (some ⟨w0.heap.size + 1 + 1, 0, none⟩) 2 2] (((w0.alloc (.cells #[.int .i64 0] 2)).alloc (.cells #[.int .i64 0] 2)).alloc (.cells #[.pointer (some ⟨w0.heap.size, 0, none⟩), .pointer (some ⟨w0.heap.size + 1, 0, none⟩)] 190)) fun e w' =>
   Kp w0 w' ∧ w0.heap.size + 3 ≤ w'.heap.size ∧
   ((∃ (er : Nat) (xs : List Int) (k : Nat), er ≠ 0 ∧ er ≤ 2 ∧ allZ 2 l = (xs, k, er) ∧ e = .returned (.tuple #[.int .i64 0, .int .i64 (er : Int)])) ∨
    (∃ (t g : Int) (k : Nat), allZ 2 l = ([t, g], k, 0) ∧ e = .returned (.tuple #[.int .i64 (k : Int), .int .i64 0]) ∧ w'.cell? ⟨w0.heap.size, 0, none⟩ = some (.int .i64 t) ∧ w'.cell? ⟨w0.heap.size + 1, 0, none⟩ = some (.int .i64 g))) := by
 have hk : Kp w0 (((w0.alloc (.cells #[.int .i64 0] 2)).alloc (.cells #[.int .i64 0] 2)).alloc (.cells #[.pointer (some ⟨w0.heap.size, 0, none⟩), .pointer (some ⟨w0.heap.size + 1, 0, none⟩)] 190)) := (((Keeps.refl _ w0).alloc _).alloc _).alloc _
 have b1 := heap_alloc_new w0 (.cells #[.int .i64 0] 2)
 have b2 := heap_alloc_new (w0.alloc (.cells #[.int .i64 0] 2)) (.cells #[.int .i64 0] 2)
 have k2 : Kp (w0.alloc (.cells #[.int .i64 0] 2)) (((w0.alloc (.cells #[.int .i64 0] 2)).alloc (.cells #[.int .i64 0] 2)).alloc (.cells #[.pointer (some ⟨w0.heap.size, 0, none⟩), .pointer (some ⟨w0.heap.size + 1, 0, none⟩)] 190)) := ((Keeps.refl _ _).alloc _).alloc _
 have k3 : Kp ((w0.alloc (.cells #[.int .i64 0] 2)).alloc (.cells #[.int .i64 0] 2)) (((w0.alloc (.cells #[.int .i64 0] 2)).alloc (.cells #[.int .i64 0] 2)).alloc (.cells #[.pointer (some ⟨w0.heap.size, 0, none⟩), .pointer (some ⟨w0.heap.size + 1, 0, none⟩)] 190)) := (Keeps.refl _ _).alloc _
 have z1 : (w0.alloc (.cells #[.int .i64 0] 2)).heap.size = w0.heap.size + 1 := by simp
 have z2 : ((w0.alloc (.cells #[.int .i64 0] 2)).alloc (.cells #[.int .i64 0] 2)).heap.size = w0.heap.size + 2 := by simp
 have z3 : (((w0.alloc (.cells #[.int .i64 0] 2)).alloc (.cells #[.int .i64 0] 2)).alloc (.cells #[.pointer (some ⟨w0.heap.size, 0, none⟩), .pointer (some ⟨w0.heap.size + 1, 0, none⟩)] 190)).heap.size = w0.heap.size + 3 := by simp
 rw [z1] at b2
 have b1' := (k2.block w0.heap.size trivial (by omega)).trans b1
 have b2' := (k3.block (w0.heap.size + 1) trivial (by omega)).trans b2
 have hlit := Row.fresh ((w0.alloc (.cells #[.int .i64 0] 2)).alloc (.cells #[.int .i64 0] 2)) #[.pointer (some ⟨w0.heap.size, 0, none⟩), .pointer (some ⟨w0.heap.size + 1, 0, none⟩)] 190 (0, 0) (w0.heap.size + 2) z2.symm (F := fun b => b ≠ w0.heap.size ∧ b ≠ w0.heap.size + 1) ⟨by omega, by omega⟩ _ rfl
 have hr' : Row (((w0.alloc (.cells #[.int .i64 0] 2)).alloc (.cells #[.int .i64 0] 2)).alloc (.cells #[.pointer (some ⟨w0.heap.size, 0, none⟩), .pointer (some ⟨w0.heap.size + 1, 0, none⟩)] 190)) A (fun b => b ≠ w0.heap.size ∧ b ≠ w0.heap.size + 1) (bcells l) :=
  (hr.lt.keep (F := fun b => True ∧ b < w0.heap.size) (hk.mono fun _ _ _ => trivial)).mono fun b _ hb => ⟨by have := hb.2; omega, by have := hb.2; omega⟩
 refine (all_two _ A m c w0.heap.size (w0.heap.size + 2) l hr' hlit (place_new _ _ _ b1') (place_new _ _ _ b2') hm hl hc).mono ?_
 rintro e w' ⟨hk', hh⟩
 exact ⟨itkeeps_over hk hk' fun b hb => ⟨by omega, by omega⟩, by have := hk'.size; omega, hh⟩
theorem idecode1 (w : World) (A : Option Addr) (c : Nat) (b : List UInt8) (h : Row w A (fun _ => True) (bcells b)) (hlc : b.length ≤ c) (hcm : c ≤ maxLen) (hl : b.length ≤ 1000000) :
  Calls Tryz.prog 152 #[.slice A b.length c] w fun e w' => Kp w w' ∧ DecPost b e := by
 unfold maxLen at hcm
 obtain ⟨s1, k1, e1, h1⟩ : ∃ s k e, getT b = (s, k, e) := ⟨_, _, _, rfl⟩
 obtain ⟨w0, hw0⟩ : ∃ w0, w.alloc (.cells itZ 40) = w0 := ⟨_, rfl⟩
 have HW0 := Hd (show w.alloc (.cells #[.string ⟨#[]⟩, .string ⟨#[]⟩, .int .i64 0, .bool false] 40) = w0 from hw0)
 have hb0 : w0.heap[w.heap.size]? = some (.cells itZ 40 (0, 0)) := by rw [← hw0]; exact heap_alloc_new w _
 have hk0 : Kp w w0 := by rw [← hw0]; exact (Keeps.refl _ w).alloc _
 have hz0 : w0.heap.size = w.heap.size + 1 := by rw [← hw0]; simp
 have HRES := res4 w w0 hb0 hk0
 have HZ0 := Hd hz0
 clear hz0
 obtain ⟨f0, f1, f2, f3, r0, r1, r2, r3⟩ := res4u w w0 hb0
 have hg1 := get_text A c (fun _ => True) b w0 (h.keep hk0) (by omega) hlc (by unfold maxLen; omega)
 rw [h1] at hg1
 simp only at hg1
 have HG1 := Hd hg1
 have HB0 := Hd hb0
 have HK0 := Hd hk0
 have HH := Hd h
 have HH1 := Hd h1
 clear hw0 hb0 hk0 hg1 h
 obtain ⟨n, hn⟩ : ∃ n, b.length = n := ⟨_, rfl⟩
 have HN := Hd hn
 rw [hn] at HG1 hlc hl ⊢
 clear hn
 by_cases he1 : e1 = 0
 ·subst he1
  obtain ⟨eq1, l1, -, k1n, k1p⟩ := getT_ok h1
  have HH1 := Hd h1
  rw [HN.out] at k1n
  clear eq1 h1 l1
  obtain ⟨g, o, rfl, -, -⟩ := HH.out.at_ (k := 0) (by rw [bcells_len, HN.out]; omega)
  go_enter Tryz.func152, Tryz.ntmps152
  go_wp2_with (rw [HW0.out])
  try rw [HW0.out]
  refine HG1.out.mono ?_
  rintro e w' ⟨rfl, rfl⟩
  rw [show ((0 : Nat) : Int) = 0 from rfl]
  have HGT0 := Hd (fun (A : Option Addr) (cc : Nat) (h0 : cc ≤ maxLen) => (show Calls Tryz.prog 126 #[.slice A 0 cc] w0 fun e w' => e = .returned (.tuple #[.string (txt []), .int .i64 0, .int .i64 2]) ∧ w0 = w' from by
   have h := get_text A cc (fun _ => True) [] w0 (Row.nil _ _ _) (by simp) (by simp) h0
   rw [getT_0] at h
   exact h))
  have HROW := Hd (HH.out.keep HK0.out)
  by_cases hn1 : n = k1
  ·subst hn1
   have HBAD := Hd (show ∀ (x : It) (r : List UInt8), x.may = true → b ≠ x.bytes ++ r from fun x r hx hb => by
    have h3 := dec_of hx hb
    have h4 := h3.1
    rw [HH1.out] at h4
    injection h4 with _ h4
    injection h4 with h4 _
    have h5 := h3.2.1
    rw [← h4, List.drop_eq_nil_of_le (by rw [HN.out]; omega), getT_0] at h5
    have h7 := congrArg (fun t : List UInt8 × Nat × Nat => t.2.2) h5
    simp at h7)
   have hcs : c = n ∨ (¬ c = n ∧ ¬ c ≤ n) := by omega
   rcases hcs with rfl | ⟨hc1, hc2⟩
   all_goals
    go_wp2_with fail
    refine (HGT0.out _ _ ?hc).mono ?_
    case hc => unfold maxLen; omega
    rintro e' w' ⟨rfl, rfl⟩
    go_wp2_with fail
    exact bodyPost_ret (v := .tuple #[.agg #[.string ⟨#[]⟩, .string ⟨#[]⟩, .int .i64 0, .bool false], .int .i64 0, .int .i64 2]) (by simp [results, Tryz.results152, go_sem, HRES.out]) rfl ⟨(HRES.out _ _ _ _).2.2.2.2, .inr ⟨2, by decide, by decide, rfl, HBAD.out⟩⟩
  ·obtain ⟨s2, k2, e2, h2⟩ : ∃ s k e, getT (b.drop k1) = (s, k, e) := ⟨_, _, _, rfl⟩
   have hdl : (b.drop k1).length = n - k1 := by rw [List.length_drop, HN.out]
   have hck : ¬ c = k1 := by omega
   have hck2 : k1 ≤ c := by omega
   have hg2 := get_text (some ⟨g, o + k1, none⟩) (c - k1) _ (b.drop k1) w0 (cut_row HROW.out HN.out k1n hlc hck) (by rw [hdl]; omega) (by rw [hdl]; omega) (by unfold maxLen; omega)
   rw [h2, hdl] at hg2
   simp only at hg2
   have HG2 := Hd hg2
   have HDL := Hd hdl
   clear hg2 hdl
   by_cases he2 : e2 = 0
   ·subst he2
    obtain ⟨eq2, l2, -, k2n, k2p⟩ := getT_ok h2
    rw [HDL.out] at k2n
    have HH2 := Hd h2
    clear eq2 h2 l2
    go_wp2_with fail
    refine HG2.out.mono ?_
    rintro e' w' ⟨rfl, rfl⟩
    rw [show ((0 : Nat) : Int) = 0 from rfl]
    have hsum : k1 + k2 ≤ n := by omega
    by_cases hn2 : n = k1 + k2
    ·have HAL0 := Hd (fun (A3 : Option Addr) (cc : Nat) => all_here w0 A3 0 cc [] (Row.nil _ _ _) rfl (by simp) (by simp))
     have HAL := Hd (fun (A3 : Option Addr) (cc : Nat) => all_here w0 A3 (n - (k1 + k2)) cc [] (Row.nil _ _ _) (by simp; omega) (by simp) (by simp))
     have HBAD := Hd (show ∀ (x : It) (r : List UInt8), x.may = true → b ≠ x.bytes ++ r from fun x r hx hb => by
      obtain ⟨h4, h5, k, h6⟩ := dec_of hx hb
      rw [HH1.out] at h4
      injection h4 with _ h4
      injection h4 with h4 _
      rw [← h4, HH2.out] at h5
      injection h5 with _ h5
      injection h5 with h5 _
      rw [← h4, ← h5, List.drop_eq_nil_of_le (by rw [HN.out]; omega)] at h6
      have h7 := congrArg (fun t : List Int × Nat × Nat => t.2.2) h6
      have h8 : (allZ 2 ([] : List UInt8)).2.2 = 2 := rfl
      simp only [h8] at h7
      omega)
     have hcs : c = k1 + k2 ∨ (¬ c = k1 + k2 ∧ ¬ c ≤ k1 + k2) := by omega
     have HE := Hd hn2
     clear hn2
     rcases hcs with rfl | ⟨hc1, hc2⟩
     all_goals
      go_wp2_with fail
      with_reducible first | refine (HAL0.out _ _).mono ?_ | refine (HAL.out _ _).mono ?_
      rintro e' w5 ⟨hk5, -, (⟨er, xs, k, he0, her, -, rfl⟩ | ⟨t, gg, k3, hz, -, -, -⟩)⟩
      ·have hb5 := (hk5.block w.heap.size trivial (by have := HZ0.out; omega)).trans HB0.out
       have HRES5 := res4 w w5 hb5 (HK0.out.trans hk5)
       obtain ⟨f0, f1, f2, f3, r0, r1, r2, r3⟩ := res4u w w5 hb5
       have t1 : ((er : Int) != 0) = true := by simp; omega
       clear hk5 hb5 HAL HAL0
       go_wp2_with fail
       exact bodyPost_ret (v := .tuple #[.agg #[.string ⟨#[]⟩, .string ⟨#[]⟩, .int .i64 0, .bool false], .int .i64 0, .int .i64 (er : Int)]) (by simp [results, Tryz.results152, go_sem, HRES5.out]) rfl ⟨(HRES5.out _ _ _ _).2.2.2.2, .inr ⟨er, he0, her, rfl, HBAD.out⟩⟩
      ·exfalso
       have h7 := congrArg (fun t : List Int × Nat × Nat => t.2.2) hz
       have h8 : (allZ 2 ([] : List UInt8)).2.2 = 2 := rfl
       simp only [h8] at h7
       omega
    ·have hnk : ¬ c = k1 + k2 := by omega
     have hnk2 : k1 + k2 ≤ c := by omega
     have hal := all_here w0 (some ⟨g, o + (k1 + k2), none⟩) (n - (k1 + k2)) (c - (k1 + k2)) (b.drop (k1 + k2)) (cut_row HROW.out HN.out hsum hlc hnk) (by rw [List.length_drop, HN.out]) (by rw [List.length_drop, HN.out]; omega) (by rw [List.length_drop, HN.out]; omega)
     have HAL := Hd hal
     clear hal
     go_wp2_with fail
     with_reducible refine HAL.out.mono ?_
     rintro e' w5 ⟨hk5, hz5, (⟨er, xs, k, he0, her, hz, rfl⟩ | ⟨t, gg, k3, hz, rfl, c10, c11⟩)⟩
     ·have HBAD := Hd (show ∀ (x : It) (r : List UInt8), x.may = true → b ≠ x.bytes ++ r from fun x r hx hb => by
       obtain ⟨h4, h5, k, h6⟩ := dec_of hx hb
       rw [HH1.out] at h4
       injection h4 with _ h4
       injection h4 with h4 _
       rw [← h4, HH2.out] at h5
       injection h5 with _ h5
       injection h5 with h5 _
       rw [← h4, ← h5, hz] at h6
       have h7 := congrArg (fun t : List Int × Nat × Nat => t.2.2) h6
       simp only at h7
       omega)
      have hb5 := (hk5.block w.heap.size trivial (by have := HZ0.out; omega)).trans HB0.out
      have HRES5 := res4 w w5 hb5 (HK0.out.trans hk5)
      obtain ⟨f0, f1, f2, f3, r0, r1, r2, r3⟩ := res4u w w5 hb5
      have t1 : ((er : Int) != 0) = true := by simp; omega
      clear hk5 hb5 HAL hz hz5
      go_wp2_with fail
      exact bodyPost_ret (v := .tuple #[.agg #[.string ⟨#[]⟩, .string ⟨#[]⟩, .int .i64 0, .bool false], .int .i64 0, .int .i64 (er : Int)]) (by simp [results, Tryz.results152, go_sem, HRES5.out]) rfl ⟨(HRES5.out _ _ _ _).2.2.2.2, .inr ⟨er, he0, her, rfl, HBAD.out⟩⟩
     ·obtain ⟨t', g', r, e5, -, hk3, ht1, ht2, hg1, hg2⟩ := allZ2_ok hz
      injection e5 with e5 e6
      injection e6 with e6 _
      subst e5 e6
      have hk3' : k3 ≤ 20 := by
       have := putZ_len t ht1 ht2
       have := putZ_len gg hg1 hg2
       omega
      clear hk3
      obtain ⟨hsl1, -⟩ : s1.length ≤ 65536 ∧ True := ⟨(getT_ok HH1.out).2.2.1, trivial⟩
      obtain ⟨hsl2, -⟩ : s2.length ≤ 65536 ∧ True := ⟨(getT_ok HH2.out).2.2.1, trivial⟩
      have HOF := Hd (show ∀ (x : It) (r : List UInt8), x.may = true → b = x.bytes ++ r → x.key.data.toList = s1 ∧ x.val.data.toList = s2 ∧ x.till = t ∧ x.flag = gg from fun x r hx hb => by
       obtain ⟨h4, h5, k, h6⟩ := dec_of hx hb
       rw [HH1.out] at h4
       injection h4 with h41 h4
       injection h4 with h4 _
       rw [← h4, HH2.out] at h5
       injection h5 with h51 h5
       injection h5 with h5 _
       rw [← h4, ← h5, hz] at h6
       injection h6 with h61 _
       injection h61 with h61 h62
       injection h62 with h62 _
       exact ⟨h41.symm, h51.symm, h61.symm, h62.symm⟩)
      have hb5 := (hk5.block w.heap.size trivial (by have := HZ0.out; omega)).trans HB0.out
      have HK5 := Hd (HK0.out.trans hk5)
      have HB5 := Hd hb5
      have HRES5 := res4 w w5 hb5 (HK0.out.trans hk5)
      have hws : w.heap.size < w5.heap.size := by have := HZ0.out; omega
      have hq0 : w0.heap.size < w5.heap.size := by omega
      have hq1 : w0.heap.size + 1 < w5.heap.size := by omega
      have HIS := Hd (fun (gone : Bool) (hgg : gg = 0 ∨ gg = 1) (hgo : gone = decide (gg = 1)) => dec_is HH1.out HH2.out hz hgg gone hgo)
      clear hk5 hb5 HAL hz hz5
      by_cases hgg : gg = 0 ∨ gg = 1
      ·have ht : ∃ gone : Bool, gone = decide (gg = 1) := ⟨_, rfl⟩
       obtain ⟨gone, hgone⟩ := ht
       have hcase : ∃ gone : Bool, gone = decide (gg = 1) ∧ ((gg != 0) = false ∧ (gg == 1) = false ∧ gone = false ∨ (gg != 0) = true ∧ (gg != 1) = false ∧ (gg == 1) = true ∧ gone = true) := by
        rcases hgg with rfl | rfl
        ·exact ⟨false, rfl, .inl ⟨rfl, rfl, rfl⟩⟩
        ·exact ⟨true, rfl, .inr ⟨rfl, rfl, rfl, rfl⟩⟩
       clear hgone gone
       obtain ⟨gone, hgone, hcase⟩ := hcase
       obtain ⟨r9, hbr, hbl⟩ := HIS.out gone hgg hgone
       have HX := Hd (show ∀ (x : It) (r : List UInt8), x.may = true → b = x.bytes ++ r → x = ⟨txt s1, txt s2, t, gone⟩ from fun x r hx hb => by
        obtain ⟨a1, a2, a3, a4⟩ := HOF.out x r hx hb
        exact it_of a1 a2 a3 a4 hgone)
       have HBR := Hd hbr
       have HBL := Hd hbl
       have HMAY := Hd (fun W => imay W ⟨txt s1, txt s2, t, gone⟩ ⟨by rw [txt_size]; omega, by rw [txt_size]; omega, ht1, ht2⟩)
       simp only at HMAY
       clear hbr hbl hgg hgone
       have hw5 : Kp w5 (w5.alloc (.cells #[.string (txt s1), .string (txt s2), .int .i64 t, .bool gone] 40)) := (Keeps.refl _ w5).alloc _
       have hx5 := heap_alloc_new w5 (.cells #[.string (txt s1), .string (txt s2), .int .i64 t, .bool gone] 40)
       have HX5 := Hd hx5
       have HW5 := Hd hw5
       clear hw5 hx5
       rcases hcase with ⟨g1, g2, rfl⟩ | ⟨g1, g2, g3, rfl⟩
       all_goals
        go_wp2_with fail
        refine (HMAY.out _).mono ?_
        rintro e' w6 ⟨rfl, hk6⟩
        have hb6 := ((HW5.out.trans hk6).block w.heap.size trivial hws).trans HB5.out
        have HRES6 := res4 w w6 hb6 (HK5.out.trans (HW5.out.trans hk6))
        obtain ⟨f0, f1, f2, f3, r0, r1, r2, r3⟩ := res4u w w6 hb6
        have hx6 := (hk6.block w5.heap.size trivial (by simp)).trans HX5.out
        have x0 := (cell_of_block hx6 0).trans rfl
        have x1 := (cell_of_block hx6 1).trans rfl
        have x2 := (cell_of_block hx6 2).trans rfl
        have x3 := (cell_of_block hx6 3).trans rfl
        clear hk6 hb6 hx6
        rcases hm : (⟨txt s1, txt s2, t, _⟩ : It).may with _ | _
        ·have HBAD := Hd (show ∀ (x : It) (r : List UInt8), x.may = true → b ≠ x.bytes ++ r from fun x r hx hb => by
          have := HX.out x r hx hb
          subst this
          rw [hm] at hx
          cases hx)
         clear hm
         go_wp2_with fail
         exact bodyPost_ret (v := .tuple #[.agg #[.string ⟨#[]⟩, .string ⟨#[]⟩, .int .i64 0, .bool false], .int .i64 0, .int .i64 1]) (by simp [results, Tryz.results152, go_sem, HRES6.out]) rfl ⟨(HRES6.out _ _ _ _).2.2.2.2, .inr ⟨1, by decide, by decide, rfl, HBAD.out⟩⟩
        ·have HM := Hd hm
         clear hm
         go_wp2_with fail
         refine bodyPost_ret (v := .tuple #[.agg #[.string (txt s1), .string (txt s2), .int .i64 t, .bool _], .int .i64 ((k1 : Int) + (k2 : Int) + (k3 : Int)), .int .i64 0]) (by simp [results, Tryz.results152, go_sem, HRES6.out]; rfl) rfl ⟨(HRES6.out _ _ _ _).2.2.2.2, .inl ⟨⟨txt s1, txt s2, t, _⟩, r9, ?_, HM.out, HBR.out⟩⟩
         rw [HBL.out]
         simp
      ·have HBAD := Hd (show ∀ (x : It) (r : List UInt8), x.may = true → b ≠ x.bytes ++ r from fun x r hx hb => by
        have h4 := (HOF.out x r hx hb).2.2.2
        have := x.flag_bd
        omega)
       have hg0 : (gg != 0) = true := by simp; omega
       have hg1' : (gg != 1) = true := by simp; omega
       have hg2' : (gg == 1) = false := by simp; omega
       have HGG := Hd hgg
       clear hgg
       have HRES7 := res4a w w5 HB5.out HK5.out (.cells #[.string (txt s1), .string (txt s2), .int .i64 t, .bool false] 40)
       obtain ⟨f0, f1, f2, f3, r0, r1, r2, r3⟩ := res4u w w5 HB5.out
       go_wp2_with fail
       exact bodyPost_ret (v := .tuple #[.agg #[.string ⟨#[]⟩, .string ⟨#[]⟩, .int .i64 0, .bool false], .int .i64 0, .int .i64 1]) (by simp [results, Tryz.results152, go_sem, HRES7.out]) rfl ⟨(HRES7.out _ _ _ _).2.2.2.2, .inr ⟨1, by decide, by decide, rfl, HBAD.out⟩⟩
   ·have HBAD := Hd (show ∀ (x : It) (r : List UInt8), x.may = true → b ≠ x.bytes ++ r from fun x r hx hb => by
     have h3 := dec_of hx hb
     have h4 := h3.1
     rw [HH1.out] at h4
     injection h4 with _ h4
     injection h4 with h4 _
     have h5 := h3.2.1
     rw [← h4, h2] at h5
     cases h5
     exact he2 rfl)
    have HE2 := Hd (getT_e h2)
    have t1 : ((e2 : Int) != 0) = true := by simp; omega
    clear h2
    go_wp2_with fail
    refine HG2.out.mono ?_
    rintro e' w' ⟨rfl, rfl⟩
    go_wp2_with fail
    exact bodyPost_ret (v := .tuple #[.agg #[.string ⟨#[]⟩, .string ⟨#[]⟩, .int .i64 0, .bool false], .int .i64 0, .int .i64 (e2 : Int)]) (by simp [results, Tryz.results152, go_sem, HRES.out]) rfl ⟨(HRES.out _ _ _ _).2.2.2.2, .inr ⟨e2, he2, HE2.out, rfl, HBAD.out⟩⟩
 ·have HBAD := Hd (show ∀ (x : It) (r : List UInt8), x.may = true → b ≠ x.bytes ++ r from fun x r hx hb => by
   have := (dec_of hx hb).1
   rw [h1] at this
   cases this
   exact he1 rfl)
  have HE1 := Hd (getT_e h1)
  have t1 : ((e1 : Int) != 0) = true := by simp; omega
  clear h1
  go_enter Tryz.func152, Tryz.ntmps152
  go_wp2_with (rw [HW0.out])
  try rw [HW0.out]
  refine HG1.out.mono ?_
  rintro e w' ⟨rfl, rfl⟩
  go_wp2_with fail
  exact bodyPost_ret (v := .tuple #[.agg #[.string ⟨#[]⟩, .string ⟨#[]⟩, .int .i64 0, .bool false], .int .i64 0, .int .i64 (e1 : Int)]) (by simp [results, Tryz.results152, go_sem, HRES.out]) rfl ⟨(HRES.out _ _ _ _).2.2.2.2, .inr ⟨e1, he1, HE1.out, rfl, HBAD.out⟩⟩
end Go.Proofs.YticophaepapjoaaGreatDoor
