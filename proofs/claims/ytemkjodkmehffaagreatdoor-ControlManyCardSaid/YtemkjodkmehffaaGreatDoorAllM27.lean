/-
  MadeWrite: texts of mine, joined.
-/
import Derived.Test.YtemkjodkmehffaaGreatDoorAllM14
import Derived.StillTailTactics
import Derived.Outline
namespace Go.Proofs.YtemkjodkmehffaaGreatDoor
open Go Go.RowKit Go.Joins Go.Maps
theorem getD_set (l : List Bool) (k : Nat) (v : Bool) (i : Nat) : (l.set k v).getD i false = if k = i ∧ i < l.length then v else l.getD i false := by
 rw [List.getD_eq_getElem?_getD, List.getD_eq_getElem?_getD, List.getElem?_set]
 by_cases h : k = i
 ·subst h
  by_cases h2 : k < l.length
  ·simp [h2]
  ·simp [h2]
 ·simp [h]
theorem trues_set (l : List Bool) (k : Nat) (hk : k < l.length) (h0 : l.getD k false = false) : (trues (l.set k true)).length = (trues l).length + 1 := by
 have hp : (trues (l.set k true)).Perm (k :: trues l) := by
  refine (List.perm_ext_iff_of_nodup ((trues_sorted _).imp fun h => Nat.ne_of_lt h) (List.nodup_cons.2 ⟨?_, (trues_sorted _).imp fun h => Nat.ne_of_lt h⟩)).2 fun i => ?_
  ·rw [mem_trues, h0]; simp
  ·rw [mem_trues, List.mem_cons, mem_trues, getD_set]
   by_cases h : k = i
   ·subst h; simp [hk]
   ·have h' : ¬ i = k := fun e => h e.symm
    simp [h, h']
 rw [hp.length_eq, List.length_cons]
theorem write_dirty_old (s : SDev) (h : s.Ok) (k : Nat) (l : List UInt8) (hk : k < s.now.length) (hd : s.dirty.getD k false = true) : (s.write k l).dirty = s.dirty := by
 show s.dirty.set k true = s.dirty
 have hk2 : k < s.dirty.length := by rw [h.dirty]; exact hk
 have e : s.dirty[k] = true := by rw [getD_mem _ _ _ hk2] at hd; exact hd
 rw [← e, List.set_getElem_self]
theorem write_look_old (s : SDev) (h : s.Ok) (k : Nat) (l : List UInt8) (hk : k < s.now.length) (hd : s.dirty.getD k false = true) : (s.write k l).look = s.look := by
 funext x
 unfold SDev.look
 rw [write_dirty_old s h k l hk hd]; rfl
theorem write_loose_old (s : SDev) (h : s.Ok) (k : Nat) (l : List UInt8) (hk : k < s.now.length) (hd : s.dirty.getD k false = true) : (s.write k l).loose = s.loose := by
 unfold SDev.loose; rw [write_dirty_old s h k l hk hd]
theorem write_look_new (s : SDev) (h : s.Ok) (k : Nat) (l : List UInt8) (hk : k < s.now.length) (hs : s.now.getD k [] = s.fast.getD k []) : (s.write k l).look = mput s.look (.int .i64 (k : Int)) (sec s.now[k]) := by
 funext x
 have hk2 : k < s.dirty.length := by rw [h.dirty]; exact hk
 by_cases hx : x = .int .i64 (k : Int)
 ·subst hx
  rw [mput_same, look_at]
  have e : (s.write k l).dirty.getD k false = true := by
   show (s.dirty.set k true).getD k false = true
   rw [getD_set, if_pos ⟨rfl, hk2⟩]
  rw [Int.toNat_natCast, if_pos ⟨by omega, e⟩]
  show some (sec (s.fast.getD k [])) = _
  rw [← hs, getD_mem _ _ _ hk]
 ·rw [mput_other _ _ hx]
  unfold SDev.look
  split
  ·rename_i i
   have hne : ¬ (0 ≤ i ∧ k = i.toNat) := fun e => hx (by rw [show i = (k : Int) by omega])
   show (if 0 ≤ i ∧ (s.dirty.set k true).getD i.toNat false = true then some (sec (s.fast.getD i.toNat [])) else none) = _
   rw [getD_set]
   by_cases h0 : 0 ≤ i
   ·have hn2 : ¬ (k = i.toNat ∧ i.toNat < s.dirty.length) := fun e => hne ⟨h0, e.1⟩
    rw [if_neg hn2]
   ·rw [if_neg (fun e => h0 e.1), if_neg (fun e => h0 e.1)]
  ·rfl
theorem write_same (s : SDev) (h : s.Ok) (k : Nat) (l : List UInt8) (hk : k < s.now.length) (hs : ∀ i, s.dirty.getD i false = false → s.now.getD i [] = s.fast.getD i []) :
  ∀ i, (s.write k l).dirty.getD i false = false → (s.write k l).now.getD i [] = (s.write k l).fast.getD i [] := by
 intro i hi
 have hk2 : k < s.dirty.length := by rw [h.dirty]; exact hk
 have hi' : (s.dirty.set k true).getD i false = false := hi
 rw [getD_set] at hi'
 by_cases hki : k = i
 ·subst hki; rw [if_pos ⟨rfl, hk2⟩] at hi'; cases hi'
 ·rw [if_neg fun e => hki e.1] at hi'
  show (s.now.set k _).getD i [] = s.fast.getD i []
  rw [List.getD_eq_getElem?_getD, List.getElem?_set_ne hki, ← List.getD_eq_getElem?_getD]
  exact hs i hi'
structure WrSt (w W : World) (p g c m : Nat) (F : Foot) (s s' : SDev) : Prop where
 blk : W.heap[p]? = some (.cells #[.slice (some ⟨g, 0, none⟩) s.now.length c, .map (some m), .int .i64 (s.calls : Int)] 92 (0, 0))
 row : W.ownsRow 0 89 64 (.slice (some ⟨g, 0, none⟩) s.now.length c) s.now.length (flat s.now)
 map : MapIs Tryz.prog 3 W m s'.loose.length s'.look
 kp : Keeps (fun b => ¬ F.M b) w W
theorem WrSt.keep {w W W' : World} {p g c m : Nat} {F : Foot} {s s' : SDev} (h : WrSt w W p g c m F s s') (hk : Keeps (fun _ => True) W W') : WrSt w W' p g c m F s s' := by
 refine ⟨?_, hk.own h.row fun _ _ => trivial, h.map.keep hk trivial, h.kp.trans (hk.mono fun _ _ _ => trivial)⟩
 rw [hk.block p trivial (Classical.byContradiction fun hn => by have := h.blk; rw [Array.getElem?_eq_none (by omega)] at this; cases this)]; exact h.blk
theorem WrSt.done {w W w3 : World} {p g c m k : Nat} {F : Foot} {s : SDev} {l : List UInt8} (h : WrSt w W p g c m F s (s.write k l)) (hok : s.Ok) (hs : ∀ i, s.dirty.getD i false = false → s.now.getD i [] = s.fast.getD i [])
  (hk : k < s.now.length) (hl : l.length ≤ 64) (hnd : [p, g, m].Nodup) (hlt : ∀ b, F.all b → b < w.heap.size) (htwo : ∀ b, F.M b → ¬ F.I b) (m1 : F.M p) (m2 : F.M g) (m3 : F.M m)
  (ho : w3.ownsRow 0 89 64 (.slice (some ⟨g, 0, none⟩) s.now.length c) s.now.length ((flat s.now).take (k * 64) ++ bcells l ++ (flat s.now).drop (k * 64 + (bcells l).length))) (hg : W.grownBy w3 (some g)) :
  w3.cell? ⟨p, 2, none⟩ = some (.int .i64 (s.calls : Int)) ∧ w3.frozen? ⟨p, 2, none⟩ = false ∧ DAt (w3.setCell ⟨p, 2, none⟩ (.int .i64 ((s.calls : Int) + 1))) p F (s.write k l) ∧ Step F F w (w3.setCell ⟨p, 2, none⟩ (.int .i64 ((s.calls : Int) + 1))) := by
 simp only [List.nodup_cons, List.mem_cons, List.not_mem_nil, or_false, not_or, not_false_eq_true, List.nodup_nil, and_true] at hnd
 obtain ⟨⟨d1, d2⟩, d3⟩ := hnd
 have hkg : Keeps (fun b => b ≠ g) W w3 := Keeps.of_grown hg fun b e _ hn => by cases e; exact hn rfl
 have hpW : p < W.heap.size := Nat.lt_of_lt_of_le (hlt p (.inl m1)) h.kp.size
 have hb := (hkg.block p d1 hpW).trans h.blk
 have hb2 := block_setCell hb (i := 2) (.int .i64 ((s.calls : Int) + 1))
 have hkp : Keeps (fun b => b ≠ p) w3 (w3.setCell ⟨p, 2, none⟩ (.int .i64 ((s.calls : Int) + 1))) := (Keeps.refl _ w3).setCell (.inr fun hn => hn rfl) _
 refine ⟨(cell_of_block hb 2).trans rfl, unfrozen_of_block hb 2, ⟨write_ok s hok k l hk hl, fun b hb => ?_, htwo, write_same s hok k l hk hs, g, c, m, ?_, ?_, ?_, ?_, m1, m2, m3⟩, ⟨?_, fun _ hb => .inl hb, fun _ hb => .inl (.inr hb)⟩⟩
 ·exact Nat.lt_of_lt_of_le (hlt b hb) (Nat.le_trans h.kp.size (Nat.le_trans hkg.size hkp.size))
 ·rw [hb2]
  simp [SDev.write]
 ·have e : (s.write k l).now.length = s.now.length := by simp [SDev.write]
  rw [e]
  refine hkp.own ?_ fun b hb => by cases hb; exact Ne.symm d1
  rw [flat_splice s.now hok.nrow k hk l hl] at ho
  show w3.ownsRow _ _ _ _ _ (flat (s.now.set k (over l (s.now.getD k []))))
  rw [getD_mem _ _ _ hk]; exact ho
 ·exact (h.map.keep hkg (Ne.symm d3)).keep hkp (Ne.symm d2)
 ·simp; omega
 ·exact (h.kp.trans (hkg.mono fun b _ hb e => hb (by rw [e]; exact m2))).trans (hkp.mono fun b _ hb e => hb (by rw [e]; exact m1))
def zcells : Array Value := Array.replicate 64 (.int .u8 0)
theorem zcells_is : secZ.cells = zcells := rfl
theorem secZ_zero (w : World) : (zeroValue 89).run Tryz.prog w = .ok secZ w := by kernel_rfl
set_option maxRecDepth 100000 in
set_option maxHeartbeats 1000000 in
theorem dwrite_own (w : World) (p : Nat) (F : Foot) (s : SDev) (h : DAt w p F s) (k : Nat) (A : Option Addr) (cb : Nat) (G : Nat → Prop) (l : List UInt8) (hr : Row w A G (bcells l)) (hG : ∀ b, G b → ¬ F.all b) (hk : k < s.now.length) (hl : l.length ≤ 64) (hcalls : s.calls ≤ 1099511627776) :
  Calls Tryz.prog 84 #[.pointer (some ⟨p, 0, none⟩), .int .i64 k, .slice A l.length cb] w fun e w' => e = .returned (.int .i64 0) ∧ DAt w' p F (s.write k l) ∧ Step F F w w' := by
 have hch := dcheck_any w p F s h (k : Int)
 have hre : s.readE (k : Int) = 0 := if_neg (by omega)
 rw [hre] at hch
 have hok := h.ok
 have hsm := hok.small
 have hd : decide ((64 : Int) < (l.length : Int)) = false := by simp; omega
 obtain ⟨g, c, m, h1, h2, h3, h4, m1, m2, m3⟩ := h.ex
 have c0 : w.cell? ⟨p, 0, none⟩ = some (.slice (some ⟨g, 0, none⟩) s.now.length c) := (cell_of_block h1 0).trans rfl
 have c1 : w.cell? ⟨p, 1, none⟩ = some (.map (some m)) := (cell_of_block h1 1).trans rfl
 have hwf : (Lit.int .i64 (k : Int)).wf = true := by simp [Lit.wf, IntKind.min, IntKind.max, IntKind.signed, IntKind.bits]; omega
 have hkey := keyOf_int_mk (q := .i64) (a := (k : Int)) Tryz.underlying3 hwf
 have hlook := h3.look2 (t := 90) (int_keyed Tryz.underlying3) Tryz.underlying90 (secZ_zero w) hkey
 rw [look_at, Int.toNat_natCast] at hlook
 have hrow := hr.lt
 have hG2 := hG
 have hp := h.lt p (.inl m1)
 have HFin := Lib.hid (show ∀ W w3, WrSt w W p g c m F s (s.write k l) → w3.ownsRow 0 89 64 (.slice (some ⟨g, 0, none⟩) s.now.length c) s.now.length ((flat s.now).take (k * 64) ++ bcells l ++ (flat s.now).drop (k * 64 + (bcells l).length)) → W.grownBy w3 (some g) →
   w3.cell? ⟨p, 2, none⟩ = some (.int .i64 (s.calls : Int)) ∧ w3.frozen? ⟨p, 2, none⟩ = false ∧ DAt (w3.setCell ⟨p, 2, none⟩ (.int .i64 ((s.calls : Int) + 1))) p F (s.write k l) ∧ Step F F w (w3.setCell ⟨p, 2, none⟩ (.int .i64 ((s.calls : Int) + 1))) from
  fun W w3 hw ho hg => hw.done hok h.same hk hl h4 h.lt h.two m1 m2 m3 ho hg)
 have HC := Lib.hid hch
 have hfl : (flat s.now).length = s.now.length * 64 := flat_len _ hok.nrow
 cases hdk : s.dirty.getD k false
 ·rw [hdk] at hlook
  rw [if_neg (by simp)] at hlook
  simp only [Option.getD_none, Option.isSome_none] at hlook
  have hlen : s.now[k].length = 64 := hok.nrow _ (List.getElem_mem hk)
  have hrowk : ∀ i v, (bcells s.now[k])[i]? = some v → w.cell? ⟨g, k * 64 + i, none⟩ = some v := DAt.row h2 hok.nrow k hk
  have HP := Lib.hid (show ∀ W, WrSt w W p g c m F s s → ∀ W2, MapIs Tryz.prog 3 W2 m (s.loose.length + 1) (mput s.look (.int .i64 (k : Int)) (sec s.now[k])) → W.grownBy W2 (some m) → WrSt w W2 p g c m F s (s.write k l) ∧ Keeps (fun b => F.I b ∨ ¬ F.all b) W W2 from by
   intro W hw W2 hm hg
   simp only [List.nodup_cons, List.mem_cons, List.not_mem_nil, or_false, not_or, not_false_eq_true, List.nodup_nil, and_true] at h4
   obtain ⟨⟨d1, d2⟩, d3⟩ := h4
   have hkm : Keeps (fun b => b ≠ m) W W2 := Keeps.of_grown hg fun b e _ hn => by cases e; exact hn rfl
   have hpW : p < W.heap.size := Nat.lt_of_lt_of_le hp hw.kp.size
   refine ⟨⟨(hkm.block p d2 hpW).trans hw.blk, hkm.own hw.row fun b hb => by cases hb; exact d3, ?_, hw.kp.trans (hkm.mono fun b _ hb e => hb (by rw [e]; exact m3))⟩, hkm.mono fun b _ hb e => ?_⟩
   ·rw [write_look_new s hok k l hk (h.same k hdk)]
    have e : (s.write k l).loose.length = s.loose.length + 1 := trues_set s.dirty k (by rw [hok.dirty]; exact hk) hdk
    rw [e]; exact hm
   ·subst e
    rcases hb with hb | hb
    ·exact h.two b m3 hb
    ·exact hb (.inl m3))
  have HW := Lib.hid (show WrSt w w p g c m F s s from ⟨h1, h2, h3, Keeps.refl _ _⟩)
  have HR := Lib.hid hr
  have HFL := Lib.hid hfl
  have HG := Lib.hid hG
  have hll : s.loose.length ≤ s.now.length := by have := trues_len s.dirty; rw [hok.dirty] at this; exact this
  have HKL := Lib.hid hlen
  have HKR := Lib.hid hrowk
  have HWF := Lib.hid hwf
  generalize s.now[k] = rk at HP HKL HKR
  clear hch h hok h1 h2 h3 h4 m1 m2 m3 hr hG hG2 hrow hre hwf hkey hdk hfl hlen hrowk
  go_enter Tryz.func84, Tryz.ntmps84
  go_wp2_with fail
  refine HC.out.mono ?_
  rintro e w' ⟨rfl, rfl⟩
  go_wp2_with (first
   | (refine list_alloc rfl 89 rfl secZ (secZ_zero _) zcells zcells_is ?_)
   | (refine list_store_part rfl 89 (.tmp 8) (.tmp 26) rfl w.heap.size 0 rfl (bcells blank) rfl 89 zcells ?h1 ?h2 ?h3 (bcells_one _) ?_))
  case h1 => exact (heap_alloc_new w _)
  case h2 => kernel_rfl
  case h3 => decide
  intro w1 hb1 hg1
  clear hb1
  have hk1 : Keeps (fun _ => True) w w1 := ((Keeps.refl _ w).alloc _).grown hg1 (by rintro b e; cases e; exact Nat.le_refl _)
  replace c0 := hk1.cell c0 trivial
  replace c1 := hk1.cell c1 trivial
  have HW1 := Lib.hid (HW.out.keep hk1)
  have HR1 := Lib.hid ((HR.out.lt.keep (hk1.mono fun _ _ _ => trivial)))
  have HKR1 := Lib.hid (show ∀ i v, (bcells rk)[i]? = some v → w1.cell? ⟨g, k * 64 + i, none⟩ = some v from fun i v hv => hk1.cell (HKR.out i v hv) trivial)
  clear hk1 hg1
  go_wp2_with fail
  refine wp_region_still_tail 12 (by kernel_rfl) (by kernel_rfl) ?_
  simp only [List.take_succ_cons, List.take_zero, List.drop_succ_cons, List.drop_zero]
  iterate 11 still_step
  refine wpStill_step (fun K hK => ?_)
  refine still_load_part rfl 89 (.tmp 40) rfl g (k * 64) rfl (bcells rk) Tryz.underlying89 rfl (by rw [bcells_len, HKL.out]; kernel_rfl) HKR1.out (sec rk) rfl ?_
  go_simp
  refine hK _ ?_
  clear hK K
  refine wpStill_nil ?_
  change wpList _ _ _ _ _ w1.drew
  have HW2 := Lib.hid (HW1.out.keep ((Keeps.refl (fun _ => True) w1).drew))
  have HR2 := Lib.hid (HR1.out.keep ((Keeps.refl (fun b => G b ∧ b < w.heap.size) w1).drew))
  clear HW1 HR1 HKR1 c0 c1
  generalize w1.drew = w2 at HW2 HR2 ⊢
  go_wp2_with (refine HW2.out.map.list_put rfl (.tmp 33) (.tmp 34) (.tmp 41) rfl (int_keyed Tryz.underlying3) Tryz.underlying90 rfl ?h7 (.int .i64 (k : Int)) (sec rk) (.int .i64 (k : Int)) rfl rfl (keyOf_int_mk Tryz.underlying3 HWF.out) trivial ?_)
  case h7 => unfold maxLen; omega
  intro w3 hm3 hg3
  obtain ⟨hw3, hk3⟩ := HP.out w2 HW2.out w3 hm3 hg3
  have c0 : w3.cell? ⟨p, 0, none⟩ = some (.slice (some ⟨g, 0, none⟩) s.now.length c) := (cell_of_block hw3.blk 0).trans rfl
  have HW1 := Lib.hid hw3
  have HR1 := Lib.hid (HR2.out.keep (hk3.mono fun b _ hb => .inr (HG.out b hb.1)))
  clear HW2 HR2 hm3 hg3 hk3 hw3
  generalize w3 = w1 at *
  go_wp2_with (refine list_copy_part rfl (.tmp 48) (.tmp 49) 71 71 rfl 5 Tryz.underlying71 (by kernel_rfl) HW1.out.row (k * 64) 64 64 rfl A l.length cb rfl (bcells l) ?h4 ?h5 HR1.out (bcells_one _) ?h6 ?_)
  case h4 => rw [bcells_len]
  case h5 => rw [bcells_len]; exact hl
  case h6 => rw [bcells_len, HFL.out]; omega
  intro w3 ho hg3
  rw [← List.append_assoc] at ho
  obtain ⟨e2, f2, hfin⟩ := HFin.out w1 w3 HW1.out ho hg3
  have c2 := (Keeps.refl (fun _ => True) w3).cell e2 trivial
  have HF := Lib.hid hfin
  clear ho hg3 hfin
  go_wp2_with fail
  go_ret
  exact ⟨rfl, HF.out⟩
 ·rw [hdk] at hlook
  rw [if_pos ⟨by omega, rfl⟩] at hlook
  simp only [Option.getD_some, Option.isSome_some] at hlook
  have hfk := Lib.hid (show (s.fast.getD k []).length = 64 by rw [getD_mem _ _ _ (by rw [hok.fast]; exact hk)]; exact hok.frow _ (List.getElem_mem _))
  generalize s.fast.getD k [] = fk at hlook hfk
  have HW := Lib.hid (show WrSt w w p g c m F s (s.write k l) from ⟨h1, h2, by rw [write_look_old s hok k l hk hdk, write_loose_old s hok k l hk hdk]; exact h3, Keeps.refl _ _⟩)
  have HR := Lib.hid hr
  have HFL := Lib.hid hfl
  clear hch h hok h1 h2 h3 h4 m1 m2 m3 hr hG hG2 hrow hre hwf hkey hdk hfl
  go_enter Tryz.func84, Tryz.ntmps84
  go_wp2_with fail
  refine HC.out.mono ?_
  rintro e w' ⟨rfl, rfl⟩
  go_wp2_with (first
   | (refine list_alloc rfl 89 rfl secZ (secZ_zero _) zcells zcells_is ?_)
   | (refine list_store_part rfl 89 (.tmp 8) (.tmp 26) rfl w.heap.size 0 rfl (bcells fk) rfl 89 zcells ?h1 ?h2 ?h3 (bcells_one _) ?_))
  case h1 => exact (heap_alloc_new w _)
  case h2 => rw [bcells_len, hfk.out]; kernel_rfl
  case h3 => rw [bcells_len, hfk.out]; decide
  intro w1 hb1 hg1
  clear hb1
  have hk1 : Keeps (fun _ => True) w w1 := ((Keeps.refl _ w).alloc _).grown hg1 (by rintro b e; cases e; exact Nat.le_refl _)
  replace c0 := hk1.cell c0 trivial
  have HW1 := Lib.hid (HW.out.keep hk1)
  have HR1 := Lib.hid ((HR.out.keep (hk1.mono fun _ _ _ => trivial)))
  clear hk1 hg1
  go_wp2_with (refine list_copy_part rfl (.tmp 48) (.tmp 49) 71 71 rfl 5 Tryz.underlying71 (by kernel_rfl) HW1.out.row (k * 64) 64 64 rfl A l.length cb rfl (bcells l) ?h4 ?h5 HR1.out (bcells_one _) ?h6 ?_)
  case h4 => rw [bcells_len]
  case h5 => rw [bcells_len]; exact hl
  case h6 => rw [bcells_len, HFL.out]; omega
  intro w3 ho hg3
  rw [← List.append_assoc] at ho
  obtain ⟨e2, f2, hfin⟩ := HFin.out w1 w3 HW1.out ho hg3
  have c2 := (Keeps.refl (fun _ => True) w3).cell e2 trivial
  have HF := Lib.hid hfin
  clear ho hg3 hfin
  go_wp2_with fail
  go_ret
  exact ⟨rfl, HF.out⟩
theorem dwrite_yes (w : World) (p : Nat) (F : Foot) (s : SDev) (h : DAt w p F s) (k : Nat) (A : Option Addr) (cb : Nat) (G : Nat → Prop) (l : List UInt8) (hr : Row w A G (bcells l)) (hG : ∀ b, G b → ¬ F.all b) (hk : k < s.now.length) (hl : l.length ≤ 64) (hcalls : s.calls ≤ 1099511627776) :
  Calls Tryz.prog 84 #[.pointer (some ⟨p, 0, none⟩), .int .i64 k, .slice A l.length cb] w fun e w' => e = .returned (.int .i64 0) ∧ ∃ F', DAt w' p F' (s.write k l) ∧ Step F F' w w' :=
 (dwrite_own w p F s h k A cb G l hr hG hk hl hcalls).mono fun _ _ h => ⟨h.1, F, h.2⟩
end Go.Proofs.YtemkjodkmehffaaGreatDoor
