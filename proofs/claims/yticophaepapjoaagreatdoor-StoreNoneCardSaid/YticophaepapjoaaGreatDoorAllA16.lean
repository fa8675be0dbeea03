/-
  SlgBegins, InvSlot, InvTwo, InvOneIn: texts of mine, joined.
-/
import Derived.Test.YticophaepapjoaaGreatDoorAllA15
import Derived.Test.YticophaepapjoaaGreatDoorAllA02
import Derived.OrdersIn
import Derived.TacticsIn
import Derived.RangeFuncCalls
namespace Go.Proofs.YticophaepapjoaaGreatDoor
open Go Go.RowKit Go.Joins
structure Went (w w' : World) (F F' Fs Fs' : Foot) : Prop where
 ap : Apart F' Fs'
 k : Keeps (fun b => ¬ F.M b ∧ ¬ Fs.M b) w w'
 f1 : ∀ b, F'.M b → F.M b ∨ w.heap.size ≤ b
 f2 : ∀ b, F'.I b → F.all b ∨ w.heap.size ≤ b
 f3 : ∀ b, Fs'.M b → Fs.M b ∨ w.heap.size ≤ b
 f4 : ∀ b, Fs'.I b → Fs.all b ∨ w.heap.size ≤ b
theorem hasB_nil {q : Nat} {K : Value} {Es : List Value} {b : Nat} (h : hasB q K (Es ++ [.slice none 0 0]) b) : hasB q K Es b := by
 rcases h with h | h | ⟨E, hE, h⟩
 ·exact .inl h
 ·exact .inr (.inl h)
 ·rcases List.mem_append.1 hE with hE | hE
  ·exact .inr (.inr ⟨E, hE, h⟩)
  ·rw [List.mem_singleton.1 hE] at h; cases h
theorem own_form {w : World} {base n size : Nat} {e : TypeId} {v : Value} {xs : List Value} (h : w.ownsRow base e size v n xs) : ∃ A c, v = .slice A n c := by
 rcases h.2 with ⟨rfl, h0⟩ | ⟨g, cap, cur, rfl, r⟩
 ·exact ⟨none, 0, by rw [h0]⟩
 ·exact ⟨_, _, rfl⟩
theorem src_seg (W : World) (sl nx : Nat) : Src Tryz.prog 3 135 (.slice (some ⟨W.heap.size, 0, none⟩) 1 1) 1 ((⟨sl, nx, []⟩ : Seg).cells (.slice none 0 0)) (W.alloc (.cells #[.int .i64 (sl : Int), .int .i64 (nx : Int), .slice none 0 0] 179)).drew :=
 Src.ofSlice _ Tryz.underlying135 ⟨W.heap.size, 0, none⟩ 1 1 _ rfl (fun j v hv => by
  rw [WideShapes.add_plain, Nat.zero_add]
  exact (cell_alloc_mark_at W _ _ _ W.heap.size j rfl).trans (by rw [← hv, ← Array.getElem?_toList]; rfl)) (fun v hv => by
  simp only [Seg.cells, List.mem_cons, List.not_mem_nil, or_false] at hv
  rcases hv with rfl | rfl | rfl <;> rfl)
set_option maxRecDepth 100000 in
set_option maxHeartbeats 1000000 in
theorem begin_any (w : World) (hT : Taken w) (q : Nat) (Fs : Foot) (p i n : Nat) (ks : List Seg) (sl left nx : Nat) (tl : List UInt8) (K T : Value) (Es : List Value) (h : LogAt w q Fs p i n ks sl left nx tl K T Es) (F : Foot) (s : SDev) (hd : DAt w p F s) (ha : Apart F Fs) (hTM : ¬ F.M 0)
  (full : Bool) (hf : Turn full ks sl) (hi : i ≤ 2048) (hn : n ≤ 200) (hsl : sl < n) (hin : i + 8 * n ≤ s.now.length) (hnx : 1 ≤ nx) (hnx2 : nx ≤ 274877906943) (hkl : ks.length ≤ 200) (hcalls : s.calls ≤ 549755813888 + 100) :
  Calls Tryz.prog 105 #[.pointer (some ⟨q, 0, none⟩)] w fun e w' => e = .returned (.int .i64 0) ∧ ∃ (F' Fs' : Foot) (K' : Value) (Es' : List Value), DAt w' p F' ((s.write (i + sl * 8) (encL (nx * 8) [])).flush) ∧
   LogAt w' q Fs' p i n (goes full ks ++ [⟨sl, nx, []⟩]) ((sl + 1) % n) 424 nx [] K' (.slice none 0 0) Es' ∧ Went w w' F F' Fs Fs' := by
 have hsm := hd.ok.small
 have hqlt : q < w.heap.size := h.lt q (.inl h.mq)
 have c4 := (cell_of_block h.blk 4).trans rfl
 have c7 := (cell_of_block h.blk 7).trans rfl
 have HA := Lib.hid h
 have HD := Lib.hid hd
 have HAP := Lib.hid ha
 have HT := Lib.hid hT
 have HTM := Lib.hid hTM
 have HF := Lib.hid hf
 have hin2 : i + sl * 8 < s.now.length := by omega
 have hk1 : Kp w (w.alloc (.cells #[.int .i64 (sl : Int), .int .i64 (nx : Int), .slice none 0 0] 179)).drew := ((Keeps.refl _ w).alloc _).drew
 have hb1 : (w.alloc (.cells #[.int .i64 (sl : Int), .int .i64 (nx : Int), .slice none 0 0] 179)).drew.heap[w.heap.size]? = some (.cells #[.int .i64 (sl : Int), .int .i64 (nx : Int), .slice none 0 0] 179 (0, 0)) := heap_alloc_new w _
 have hz1 : (w.alloc (.cells #[.int .i64 (sl : Int), .int .i64 (nx : Int), .slice none 0 0] 179)).drew.heap.size = w.heap.size + 1 := by simp
 have HK1 := Lib.hid hk1
 have HB1 := Lib.hid hb1
 have HZ1 := Lib.hid hz1
 obtain ⟨r, hr⟩ : ∃ r, (sl + 1) % n = r := ⟨_, rfl⟩
 have HR := Lib.hid hr
 rw [hr]
 clear h hd ha hT hTM hf hk1 hb1 hz1 hin hr
 go_enter Tryz.func105, Tryz.ntmps105
 go_wp2_with fail
 go_region
 generalize (w.alloc (.cells #[.int .i64 (sl : Int), .int .i64 (nx : Int), .slice none 0 0] 179)).drew = w1 at HK1 HB1 HZ1 ⊢
 have e0 : w1.cell? ⟨w.heap.size, 0, none⟩ = some (.int .i64 (sl : Int)) := (cell_of_block HB1.out 0).trans rfl
 have e1 : w1.cell? ⟨w.heap.size, 1, none⟩ = some (.int .i64 (nx : Int)) := (cell_of_block HB1.out 1).trans rfl
 have e2 : w1.cell? ⟨w.heap.size, 2, none⟩ = some (.slice none 0 0) := (cell_of_block HB1.out 2).trans rfl
 have HA1 := Lib.hid (HA.out.keep (HK1.out.mono fun _ _ _ => trivial))
 have hlay := llay_any w1 (HT.out.keep HK1.out) q p i n HA1.out.head F s (HD.out.keep (HK1.out.mono fun _ _ _ => trivial)) (HAP.out.r q HA.out.mq) HTM.out sl nx 0 (.slice none 0 0) rfl [] (by simp) hi (by omega) (by omega) (by omega) hin2 (by omega)
 rw [show (txt ([] : List UInt8)) = ⟨#[]⟩ from rfl] at hlay
 simp only [Nat.add_zero] at hlay
 have HLAY := Lib.hid hlay
 clear hlay c4 c7
 go_wp2_with fail
 refine HLAY.out.mono ?_
 rintro e w2 ⟨rfl, F2, hd2, hst2⟩
 have HST2 := Lib.hid hst2
 have HD2 := Lib.hid hd2
 have HG1 := Lib.hid (show ∀ b, Fs.all b → b < w1.heap.size from fun b hb => Nat.lt_of_lt_of_le (HA.out.lt b hb) HK1.out.size)
 have HA2 := Lib.hid (HA1.out.keep (hst2.other HAP.out))
 have c0 := HA2.out.head.d
 clear hst2 hd2 HLAY e0 e1 e2
 go_wp2_with fail
 refine (dflush_any w2 p F2 _ HD2.out (show s.calls + 1 ≤ _ by omega)).mono ?_
 rintro e w3 ⟨rfl, F3, hd3, hst3⟩
 have HST := Lib.hid (HST2.out.trans hst3)
 have HD3 := Lib.hid hd3
 have hap2 := HST2.out.apart HAP.out HG1.out
 have HA3 := Lib.hid (HA2.out.keep (hst3.other hap2))
 have HAP3 := Lib.hid (HST.out.apart HAP.out HG1.out)
 have HB3 := Lib.hid ((HST.out.keeps.block w.heap.size (fun hm => by have := HD.out.lt w.heap.size (.inl hm); omega) (by rw [HZ1.out]; omega)).trans HB1.out)
 have e0 : w3.cell? ⟨w.heap.size, 0, none⟩ = some (.int .i64 (sl : Int)) := (cell_of_block HB3.out 0).trans rfl
 have c3 := (cell_of_block HA3.out.blk 3).trans rfl
 have hDEL := delete_any w3 q Fs p i n ks sl left nx tl K T Es HA3.out (by omega) w.heap.size sl e0 (fun e => by have := HA.out.lt w.heap.size (.inl (HA.out.mkk _ e)); omega) full HF.out
 have HDEL := Lib.hid hDEL
 clear hst3 hd3 hap2 hDEL c0
 go_wp2_with fail
 refine HDEL.out.mono ?_
 rintro e w4 ⟨K6, rfl, hko, hr6, hk4⟩
 have HM5 := Lib.hid (HA3.out.mid.cut full hko hr6 hk4)
 have hb4 := HA3.out.blk.keep hk4 (fun e => HA3.out.kq q e rfl)
 have c3 := (cell_of_block hb4 3).trans rfl
 have f3 := unfrozen_of_block hb4 3
 have HB4 := Lib.hid ((hk4.block w.heap.size (fun e => by have := HA.out.lt w.heap.size (.inl (HA.out.mkk _ e)); omega) (World.block_lt_of_cell? w3 _ e0)).trans HB3.out)
 have HK4 := Lib.hid hk4
 have HKO := Lib.hid hko
 obtain ⟨A6, c6, rfl⟩ := own_form hr6
 clear hr6 hk4 hb4 HDEL hko
 go_wp2_with fail
 have hk5 : Keeps (fun b => b ≠ q) w4 (w4.setCell ⟨q, 3, none⟩ (.slice A6 (goes full ks).length c6)) := (Keeps.refl _ w4).setCell (.inr fun hn => hn rfl) _
 generalize w4.setCell ⟨q, 3, none⟩ (.slice A6 (goes full ks).length c6) = w5 at HM5 hk5 ⊢
 have HK5 := Lib.hid hk5
 have hm6 : (goes full ks).length ≤ 200 := by
  cases full
  ·exact hkl
  ·show ks.tail.length ≤ 200; rw [List.length_tail]; omega
 have hb5 := (hk5.block w.heap.size (by show w.heap.size ≠ q; omega) (by rw [← Nat.not_le]; intro hle; have := (Array.getElem?_eq_some_iff.1 HB4.out).1; omega)).trans HB4.out
 have e0 : w5.cell? ⟨w.heap.size, 0, none⟩ = some (.int .i64 (sl : Int)) := (cell_of_block hb5 0).trans rfl
 have e1 : w5.cell? ⟨w.heap.size, 1, none⟩ = some (.int .i64 (nx : Int)) := (cell_of_block hb5 1).trans rfl
 have e2 : w5.cell? ⟨w.heap.size, 2, none⟩ = some (.slice none 0 0) := (cell_of_block hb5 2).trans rfl
 have c3 := (cell_of_block HM5.out.blk 3).trans rfl
 have hq5 : q < w5.heap.size := HM5.out.lt q (.inl rfl)
 have hw5 : w.heap.size < w5.heap.size := (Array.getElem?_eq_some_iff.1 hb5).1
 have h0 : Kp w5 (w5.alloc (.cells #[.int .i64 (sl : Int), .int .i64 (nx : Int), .slice none 0 0] 179)).drew := ((Keeps.refl _ w5).alloc _).drew
 have HOWN := Lib.hid (h0.own HM5.out.row fun _ _ => trivial)
 have HSRC := Lib.hid (src_seg w5 sl nx)
 have H63 := Lib.hid (show (goes full ks).length + 1 ≤ maxLen from by unfold maxLen; omega)
 have hby : ((goes full ks).length + 1) * 40 ≤ 140737488355328 := by omega
 have hbase : 0 ≤ ((w5.alloc (.cells #[.int .i64 (sl : Int), .int .i64 (nx : Int), .slice none 0 0] 179)).drew).heap.size := Nat.zero_le _
 have HH0 := Lib.hid h0
 have HBQ := Lib.hid (show ∀ (w7 : World) (A7 : Option Addr) (c7 : Nat), w7.ownsRow 0 179 3 (.slice A7 ((goes full ks).length + 1) c7) ((goes full ks).length + 1) (segC (goes full ks) (goesE full Es) ++ (⟨sl, nx, []⟩ : Seg).cells (.slice none 0 0)) → (w5.alloc (.cells #[.int .i64 (sl : Int), .int .i64 (nx : Int), .slice none 0 0] 179)).drew.grownBy w7 (Value.slice A6 (goes full ks).length c6).ownBlock →
   w7.heap[q]? = w5.heap[q]? from fun w7 A7 c7 _ g => (g.block q (Nat.lt_of_lt_of_le hq5 HH0.out.size) (fun e => HM5.out.kq q e.symm rfl)).trans (HH0.out.block q trivial hq5))
 clear h0 hb5 hk5 f3
 have hk05 : Keeps (fun b => ¬ F.M b ∧ ¬ Fs.M b) w w5 := by
  have h1 : Keeps (fun b => ¬ F.M b ∧ ¬ Fs.M b) w w3 := (HK1.out.mono fun _ _ _ => trivial).trans (HST.out.keeps.mono fun b _ hb => hb.1)
  have h2 : Keeps (fun b => ¬ F.M b ∧ ¬ Fs.M b) w3 w4 := HK4.out.mono fun b _ hb e => hb.2 (HA.out.mkk b e)
  have h3 : Keeps (fun b => ¬ F.M b ∧ ¬ Fs.M b) w4 w5 := HK5.out.mono fun b _ hb e => hb.2 (by rw [show b = q from e]; exact HA.out.mq)
  exact (h1.trans h2).trans h3
 have HK05 := Lib.hid hk05
 have HDF := Lib.hid (show DAt w5 p F3 ((s.write (i + sl * 8) (encL (nx * 8) [])).flush) from (HD3.out.keep (HK4.out.mono fun b _ hb e => HAP3.out.r b (HA.out.mkk b e) hb)).keep (HK5.out.mono fun b _ hb e => HAP3.out.r q HA.out.mq (by rw [← show b = q from e]; exact hb)))
 have HSS := Lib.hid (show w.heap.size ≤ w5.heap.size from hk05.size)
 clear hk05
 obtain ⟨gm, hgm⟩ : ∃ gm, (goes full ks).length = gm := ⟨_, rfl⟩
 have HGM := Lib.hid hgm
 rw [hgm] at c3 HOWN H63 hby HBQ hm6
 have HM5' := Lib.hid (show LogMid w5 q p i n (goes full ks) sl left nx (.slice A6 gm c6) T (goesE full Es) from by rw [← hgm]; exact HM5.out)
 have hbx : ∀ b, (Value.slice A6 gm c6).ownBlock = some b → Fs.M b := fun b e => HA.out.mkk b (by rw [← HKO.out, hgm]; exact e)
 have HBX := Lib.hid hbx
 rw [hgm]
 clear hgm HM5 hbx
 go_wp2_with fail
 go_region_law (refine seg_elem.step_append rfl (.tmp 42) (.tmp 44) 135 rfl (by simp [Act.eval, Act.put]) HOWN.out (by simp [Act.eval, Act.put]) HSRC.out H63.out hby hbase ?_; intro v7 w7 o7 g7 b7; obtain ⟨A7, c7, hv⟩ := own_form o7; subst hv; have hl7 := (HBQ.out w7 A7 c7 o7 g7).trans HM5'.out.blk; have cc3 := (cell_of_block hl7 3).trans rfl; have ff3 := unfrozen_of_block hl7 3)
 all_goals
  have HM8 := Lib.hid (HM5'.out.put ⟨sl, nx, []⟩ (.slice none 0 0) rfl rfl _ HH0.out (by rw [HGM.out]; exact o7) g7 b7)
  have hk8 : Keeps (fun b => b ≠ q ∧ (Value.slice A6 gm c6).ownBlock ≠ some b) w5 (w7.setCell ⟨q, 3, none⟩ (.slice A7 (gm + 1) c7)) :=
   ((HH0.out.mono fun _ _ _ => trivial).trans (Keeps.of_grown g7 fun b e _ hn => hn.2 e)).setCell (.inr fun hn => hn.1 rfl) _
  have HBB := Lib.hid (show ∀ b, (Value.slice A7 (gm + 1) c7).ownBlock = some b → Fs.M b ∨ w5.heap.size ≤ b from fun b e => by
   rcases b7 with e2 | e2
   ·exact .inl (HBX.out b (by rw [← e2]; exact e))
   ·right
    rw [e2] at e; injection e with e
    have := HH0.out.size; omega)
  have HK8 := Lib.hid hk8
  clear o7 g7 b7 hl7 cc3 ff3 hk8
  generalize w7.setCell ⟨q, 3, none⟩ (.slice A7 (gm + 1) c7) = w8 at HM8 HK8 ⊢
  have hbh := behind_any w8 q p i n HM8.out.blk.head sl (by omega) (by omega) (by omega)
  rw [HR.out] at hbh
  have HBH := Lib.hid hbh
  have e08 := HK8.out.cell e0 ⟨by show w.heap.size ≠ q; omega, fun e => by have := HA.out.lt w.heap.size (.inl (HBX.out _ e)); omega⟩
  have c4 := (cell_of_block HM8.out.blk 4).trans rfl
  have f4 := unfrozen_of_block HM8.out.blk 4
  have c5 := (cell_of_block HM8.out.blk 5).trans rfl
  have f5 := unfrozen_of_block HM8.out.blk 5
  have c6' := (cell_of_block HM8.out.blk 6).trans rfl
  have f6 := unfrozen_of_block HM8.out.blk 6
  have hb11 := block_setCell (block_setCell (block_setCell HM8.out.blk (i := 4) (.int .i64 (r : Int))) (i := 5) (.int .i64 424)) (i := 6) (.slice none 0 0)
  have hk11 : Keeps (fun b => b ≠ q) w8 (((w8.setCell ⟨q, 4, none⟩ (.int .i64 (r : Int))).setCell ⟨q, 5, none⟩ (.int .i64 424)).setCell ⟨q, 6, none⟩ (.slice none 0 0)) := (((Keeps.refl _ w8).setCell (.inr fun hn => hn rfl) _).setCell (.inr fun hn => hn rfl) _).setCell (.inr fun hn => hn rfl) _
  have hM := HM8.out.set (sl' := r) (left' := 424) (nx' := nx) (T' := .slice none 0 0) hb11 hk11
  have HFIN := Lib.hid (show ∃ (F' Fs' : Foot) (K' : Value) (Es' : List Value), DAt (((w8.setCell ⟨q, 4, none⟩ (.int .i64 (r : Int))).setCell ⟨q, 5, none⟩ (.int .i64 424)).setCell ⟨q, 6, none⟩ (.slice none 0 0)) p F' ((s.write (i + sl * 8) (encL (nx * 8) [])).flush) ∧
    LogAt (((w8.setCell ⟨q, 4, none⟩ (.int .i64 (r : Int))).setCell ⟨q, 5, none⟩ (.int .i64 424)).setCell ⟨q, 6, none⟩ (.slice none 0 0)) q Fs' p i n (goes full ks ++ [⟨sl, nx, []⟩]) r 424 nx [] K' (.slice none 0 0) Es' ∧ Went w (((w8.setCell ⟨q, 4, none⟩ (.int .i64 (r : Int))).setCell ⟨q, 5, none⟩ (.int .i64 424)).setCell ⟨q, 6, none⟩ (.slice none 0 0)) F F3 Fs ⟨hasB q (.slice A7 (gm + 1) c7) (goesE full Es ++ [.slice none 0 0]), fun _ => False⟩ ∧ F' = F3 ∧ Fs' = ⟨hasB q (.slice A7 (gm + 1) c7) (goesE full Es ++ [.slice none 0 0]), fun _ => False⟩ from by
   have hFM : ∀ b, hasB q (.slice A7 (gm + 1) c7) (goesE full Es ++ [.slice none 0 0]) b → Fs.M b ∨ w5.heap.size ≤ b := fun b hb => by
    rcases hasB_nil hb with rfl | hb | ⟨E, hE, hb⟩
    ·exact .inl HA.out.mq
    ·exact HBB.out b hb
    ·exact .inl (HA.out.me E (goesE_mem hE) b hb)
   have h35 : ∀ b, F3.all b → b < w5.heap.size := fun b hb => HDF.out.lt b hb
   have hap : Apart F3 ⟨hasB q (.slice A7 (gm + 1) c7) (goesE full Es ++ [.slice none 0 0]), fun _ => False⟩ := ⟨fun b hb hx => by
     rcases hx with hx | hx
     ·rcases hFM b hx with h1 | h1
      ·exact HAP3.out.l b hb (.inl h1)
      ·have := h35 b (.inl hb); omega
     ·exact hx, fun b hb hx => by
     rcases hFM b hb with h1 | h1
     ·exact HAP3.out.r b h1 hx
     ·have := h35 b hx; omega⟩
   have hkk : Keeps (fun b => b ≠ q ∧ (Value.slice A6 gm c6).ownBlock ≠ some b) w5 (((w8.setCell ⟨q, 4, none⟩ (.int .i64 (r : Int))).setCell ⟨q, 5, none⟩ (.int .i64 424)).setCell ⟨q, 6, none⟩ (.slice none 0 0)) := HK8.out.trans (hk11.mono fun b _ hb => hb.1)
   refine ⟨F3, _, _, _, HDF.out.keep (hkk.mono fun b _ hb => ⟨fun e => HAP3.out.r q HA.out.mq (by rw [← e]; exact hb), fun e => HAP3.out.r b (HBX.out b e) hb⟩), hM.at_ (fun _ => False) (fun _ h => h.elim) (fun _ _ h => h) ⟨none, 0, rfl, Nat.le_refl _, Nat.zero_le _, Row.nil _ _ _⟩, ⟨hap, ?_, ?_, ?_, ?_, fun b hb => hb.elim⟩, rfl, rfl⟩
   ·exact HK05.out.trans (hkk.mono fun b _ hb => ⟨fun e => hb.2 (by rw [e]; exact HA.out.mq), fun e => hb.2 (HBX.out b e)⟩)
   ·exact fun b hb => (HST.out.m b hb).imp id fun h1 => by have := HK1.out.size; omega
   ·exact fun b hb => (HST.out.i b hb).imp id fun h1 => by have := HK1.out.size; omega
   ·exact fun b hb => (hFM b hb).imp id fun h1 => by have := HSS.out; omega)
  clear hM hk11 hb11 hbh
  go_wp2_with fail
  refine HBH.out.mono ?_
  rintro e w' ⟨rfl, rfl⟩
  go_wp2_with fail
  go_ret
  obtain ⟨F', Fs', K', Es', h1, h2, h3, rfl, rfl⟩ := HFIN.out
  exact ⟨rfl, _, _, _, _, h1, h2, h3⟩
end Go.Proofs.YticophaepapjoaaGreatDoor
namespace Go.Proofs.YticophaepapjoaaGreatDoor
open Go Go.RowKit
section
variable {P : Program} {ops : Array Oper} {Q : Exit → Act → World → Prop} {V : Nat → World → Value → Prop} {a0 : Act} {w0 : World}
theorem slotOf_put {a : Act} {v : Value} (hd : ∀ i j d, dstOf ops i = some d → dstOf ops j = some d → i = j) (hb : ∀ i d, dstOf ops i = some d → d < a.tmps.size) {i A : Nat} (hA : ∃ d, dstOf ops A = some d) (hne : i ≠ A) :
  slotOf (a.put (dstOf ops i) v) (dstOf ops A) = slotOf a (dstOf ops A) := by
 obtain ⟨d, hd'⟩ := hA
 rw [hd']
 cases hx : dstOf ops i with
 | none => rfl
 | some d' =>
  show (a.put (some d') v).tmps.getD d undef = a.tmps.getD d undef
  rw [getD_put (hb i d' hx), if_neg (fun h => hne (hd i A d (by rw [hx, h]) hd'))]
theorem wp_region_slot {id : Nat} {w : World} (k A : Nat) (St : Bool → Value → World → Prop) (Rk : World → World → Prop) (G : Nat → Option Bool) (hm : P.follows .mixedOrders = true)
  (hV : ∀ i w w' v, Kp w w' → V i w v → V i w' v) (hS : ∀ b u w w', Kp w w' → St b u w → St b u w') (hF : ∀ u u' w, St false u w → St false u' w) (hA : ∃ d, dstOf ops A = some d) (hkA : waits ops k A = true) (hAk : A ≠ k) (hVk : ∀ i, i ≠ k → ∀ w w' v, Rk w w' → V i w v → V i w' v)
  (hfit : fitsG G ops a0.tmps.size = true) (hk : k < ops.size) (hG : ∀ g c, G g = some c → ∀ w v, V g w v → v = .bool c) (hU : ∀ (i : Nat) (o : Oper), ops[i]? = some o → wantsG G o = false → i ≠ k ∧ V i = IsV undef) (hw : ∀ u, St false u w.drew)
  (loc : ∀ (i : Nat) (o : Oper), ops[i]? = some o → wantsG G o = true → ∀ a w, Leans (fun _ _ => True) V ops a0 w0 i a w →
   if i = k then (St false (slotOf a (dstOf ops A)) w → o.wp P a w (fun a' w' => ∃ v, a' = a.put o.dst v ∧ Rk w w' ∧ St true (slotOf a (dstOf ops A)) w' ∧ V i w' v) Q)
   else (∀ b, St b (slotOf a (dstOf ops A)) w → (∀ js, chained ops k i js = true → b = true) → o.wp P a w (fun a' w' => ∃ v, a' = a.put o.dst v ∧ Kp w w' ∧ V i w' v) Q))
  (done : ∀ vs w, St true (vs.getD A undef) w → vs.length = ops.size → (∀ i d, dstOf ops i = some d → V i w (vs.getD i undef)) → Q .normal (putAll a0 (ops.toList.map (·.dst)) vs) w) :
  (Code.region id ops true).wp P Q a0 w := by
 have look : ∀ (i : Nat) (o : Oper), ops[i]? = some o → (∀ g b, o.guard = some (g, b) → waits ops i g = true ∧ (dstOf ops g).isSome = true ∧ ((G g).isSome = true ∨ ∃ o', ops[g]? = some o' ∧ wantsG G o' = false)) ∧ (∀ e ∈ o.after, Region.binds .any e = true → e.on < i) ∧ (∀ d, o.dst = some d → d < a0.tmps.size) ∧ (∀ j, i ≠ j → ∀ d, o.dst = some d → dstOf ops j ≠ some d) := by
  intro i o ho
  have hi : i < ops.size := (Array.getElem?_eq_some_iff.1 ho).1
  have h := List.all_eq_true.1 hfit i (List.mem_range.2 hi)
  simp only [ho, Option.all_some, Bool.and_eq_true] at h
  obtain ⟨⟨⟨h1, h2⟩, h3⟩, h4⟩ := h
  refine ⟨fun g b hgb => ?_, fun e he hb => ?_, fun d hd => ?_, fun j hj d hd hx => ?_⟩
  ·rw [hgb] at h1
   simp only [Bool.and_eq_true, Bool.or_eq_true] at h1
   refine ⟨h1.1.1, h1.1.2, h1.2.imp (fun hx => hx) fun hx => ?_⟩
   cases ho' : ops[g]? with
   | none => rw [ho'] at hx; cases hx
   | some o' =>
    rw [ho'] at hx
    exact ⟨o', rfl, by simpa using hx⟩
  ·have := Array.all_eq_true_iff_forall_mem.1 h2 e he
   simpa [hb] using this
  ·rw [hd] at h3; simpa using h3
  ·have hjs : j < ops.size := by
    rcases Nat.lt_or_ge j ops.size with h' | h'
    ·exact h'
    ·simp [dstOf, Array.getElem?_eq_none h'] at hx
   have := List.all_eq_true.1 h4 j (List.mem_range.2 hjs)
   rw [hd, hx] at this
   simp [hj] at this
 have some_of : ∀ i d, dstOf ops i = some d → ∃ o, ops[i]? = some o ∧ o.dst = some d := fun i d h => by
  unfold dstOf at h
  cases ho : ops[i]? with
  | none => simp [ho] at h
  | some o => exact ⟨o, rfl, by simpa [ho] using h⟩
 have hd : ∀ i j d, dstOf ops i = some d → dstOf ops j = some d → i = j := by
  intro i j d hi hj
  obtain ⟨o, ho, hd⟩ := some_of i d hi
  exact Classical.byContradiction fun hne => (look i o ho).2.2.2 j hne d hd hj
 have hb : ∀ i d, dstOf ops i = some d → d < a0.tmps.size := by
  intro i d hi
  obtain ⟨o, ho, hd⟩ := some_of i d hi
  exact (look i o ho).2.2.1 d hd
 have hac : ∀ i j, waits ops i j = true → j < i := by
  intro i j h
  obtain ⟨o, ho, e, he, hb, rfl⟩ := (waits_iff i j).1 h
  exact (look i o ho).2.1 e he hb
 have fin : ∀ (l : Array Bool) (a : Act) (w' : World), (∀ i, i < ops.size → l.getD i false = true) → StandsAt (fun _ _ => True) V ops a0 w0 l a w' → St (l.getD k false) (slotOf a (dstOf ops A)) w' → Q .normal a w' := by
  intro l a w' hall h hs
  rw [hall k hk] at hs
  have hlen : ((ops.toList.map (·.dst)).map (slotOf a)).length = ops.size := by simp
  have es : ((ops.toList.map (·.dst)).map (slotOf a)).getD A undef = slotOf a (dstOf ops A) := by
   obtain ⟨dA, hdA⟩ := hA
   obtain ⟨o, ho, hd⟩ := some_of A dA hdA
   rw [List.getD_eq_getElem?_getD, List.getElem?_map, List.getElem?_map, Array.getElem?_toList, ho]
   simp [hd, hdA, slotOf]
  rw [← es] at hs
  have hq := done ((ops.toList.map (·.dst)).map (slotOf a)) w' hs hlen (fun i d hid => by
   obtain ⟨o, ho, hd⟩ := some_of i d hid
   have hi : i < ops.size := (Array.getElem?_eq_some_iff.1 ho).1
   have hv := h.val i d (hall i hi) hid
   have e : ((ops.toList.map (·.dst)).map (slotOf a)).getD i undef = a.tmps.getD d undef := by
    rw [List.getD_eq_getElem?_getD, List.getElem?_map, List.getElem?_map, Array.getElem?_toList, ho]
    simp [hd, slotOf]
   rw [e]; exact hv)
  rw [← putAll_of a _ a0 h.defers h.tmps ?_ ?_] at hq
  ·exact hq
  ·intro d hd
   obtain ⟨o, ho, hod⟩ := List.mem_map.1 hd
   obtain ⟨i, hi, rfl⟩ := List.getElem_of_mem ho
   exact (look i ops[i] (by simp at hi; simp [hi])).2.2.1 d (by simpa using hod)
  ·intro t ht
   refine h.old t fun i _ hid => ht ?_
   obtain ⟨o, ho, hd⟩ := some_of i t hid
   refine List.mem_map.2 ⟨o, ?_, hd⟩
   rw [← Array.mem_def]
   exact Array.mem_of_getElem? ho
 have go : ∀ (fuel : Nat) (l : Array Bool) (a : Act) (w : World), (leftOver ops.size l).length ≤ fuel → StandsAt (fun _ _ => True) V ops a0 w0 l a w → St (l.getD k false) (slotOf a (dstOf ops A)) w → wpAny P .any ops Q fuel l a w := by
  intro fuel
  induction fuel with
  | zero =>
   intro l a w hf h hs
   have hn : leftOver ops.size l = [] := List.eq_nil_of_length_eq_zero (by omega)
   have hnot : ∀ i, i < ops.size → l.getD i false = true := fun i hi => by
    have hm : i ∉ leftOver ops.size l := by rw [hn]; simp
    have hl' : i < l.size := by rw [h.size]; exact hi
    unfold leftOver at hm
    simp only [List.mem_filter, List.mem_range, hi, true_and, Array.getD, hl'] at hm ⊢
    simpa using hm
   refine ⟨?_, fin l a w hnot h hs⟩
   refine List.eq_nil_iff_forall_not_mem.2 fun i hi => ?_
   have hm := (mem_ready.1 hi).1
   have hx := getD_false_of hm
   rw [hnot i (by rw [← h.size]; exact hx.2)] at hx
   exact absurd hx.1 (by simp)
  | succ fuel ih =>
   intro l a w hf h hs
   refine ⟨fun hr => fin l a w (all_listed hac h.size hr) h hs, fun i hi => ?_⟩
   obtain ⟨hl, o, ho, hall⟩ := mem_ready.1 hi
   have hwt : ∀ j, waits ops i j = true → l.getD j false = true := fun j hj => by
    obtain ⟨o', ho', e, he, hb', rfl⟩ := (waits_iff i j).1 hj
    rw [ho] at ho'; cases ho'
    exact hall e he hb'
   have hdst : o.dst = dstOf ops i := by simp [dstOf, ho]
   have hleft : (leftOver ops.size (l.setIfInBounds i true)).length ≤ fuel := by
    have := leftOver_set ops.size l i (by rw [← h.size]; exact (getD_false_of hl).2) hl
    omega
   have hwant := wanted_is (h.leans hl hwt) (fun j d hj => by rw [h.tmps]; exact hb j d hj) (look i o ho).1 hG (fun i o ho hw => (hU i o ho hw).2)
   have hset : ∀ (hne : i ≠ k), (l.setIfInBounds i true).getD k false = l.getD k false := fun hne => getD_set_ne false hne
   have hb' : ∀ i d, dstOf ops i = some d → d < a.tmps.size := fun i d h' => by rw [h.tmps]; exact hb i d h'
   have hslot : ∀ (v : Value) (W : World), i ≠ k → St (l.getD k false) (slotOf a (dstOf ops A)) W → St (l.getD k false) (slotOf (a.put (dstOf ops i) v) (dstOf ops A)) W := fun v W hne hs => by
    by_cases hiA : i = A
    ·have hlk : l.getD k false = false := by
      cases hx : l.getD k false with
      | false => rfl
      | true =>
       have := h.down k A hx hkA
       rw [← hiA, (getD_false_of hl).1] at this; cases this
     rw [hlk] at hs ⊢
     exact hF _ _ _ hs
    ·rw [slotOf_put hd hb' hA hiA]; exact hs
   have hloc := loc i o ho
   unfold wpOp
   cases hwo : wantsG G o
   ·rw [hwo] at hwant
    obtain ⟨hne, hu⟩ := hU i o ho hwo
    simp only [ho, hwant, Bool.false_eq_true, if_false]
    rw [hdst]
    exact ih _ _ _ hleft (h.step' trivial (fun _ => trivial) hd hb hl (fun _ _ _ hh => hh) hwt (by rw [hu]; rfl)) (by rw [hset hne]; exact hslot _ _ hne hs)
   ·rw [hwo] at hwant
    simp only [ho, hwant, if_true]
    have hlc := hloc hwo a w (h.leans hl hwt)
    by_cases hik : i = k
    ·subst hik
     rw [if_pos rfl] at hlc
     have hlf := (getD_false_of hl).1
     rw [hlf] at hs
     refine .inl (Oper.wp_mono (fun a' w' hk' => ?_) (hlc hs))
     obtain ⟨v, rfl, hr, hst, hv⟩ := hk'
     rw [hdst]
     refine ih _ _ _ hleft (h.step' trivial (fun _ => trivial) hd hb hl (fun j u hj hu => ?_) hwt hv) (by
      have : (l.setIfInBounds i true).getD i false = true := by simp [(getD_false_of hl).2]
      rw [this, slotOf_put hd hb' hA (Ne.symm hAk)]; exact hst)
     exact hVk j (fun e => by subst e; rw [hj] at hlf; cases hlf) w w' u hr hu
    ·rw [if_neg hik] at hlc
     refine .inl (Oper.wp_mono (fun a' w' hk' => ?_) (hlc _ hs (fun js hbh => chained_listed h js i hwt hbh)))
     obtain ⟨v, rfl, hr, hv⟩ := hk'
     rw [hdst]
     exact ih _ _ _ hleft (h.step' trivial (fun _ => trivial) hd hb hl (fun j u _ hu => hV j w w' u hr hu) hwt hv) (by rw [hset hik]; exact hslot _ _ hik (hS _ _ _ _ hr hs))
 refine wp_region_any hm ?_
 refine go ops.size _ a0 _ ?_ ?_ ?_
 ·refine Nat.le_trans (List.length_filter_le _ _) ?_
  simp
 ·refine ⟨by simp, trivial, rfl, rfl, fun _ _ => rfl, ?_, ?_⟩
  ·intro i d h; exact absurd h (by simp [Array.getD])
  ·intro i j h; exact absurd h (by simp [Array.getD])
 ·have : (Array.replicate ops.size false).getD k false = false := by simp [Array.getD]
  rw [this]; exact hw _
end
section
variable {P : Program} {ops : Array Oper} {Q : Exit → Act → World → Prop} {V : Nat → World → Value → Prop} {a0 : Act} {w0 : World}
theorem wp_region_two {id : Nat} {w : World} (k1 k2 : Nat) (St : Bool → Bool → World → Prop) (R1 R2 : World → World → Prop) (G : Nat → Option Bool) (hm : P.follows .mixedOrders = true)
  (hV : ∀ i w w' v, Kp w w' → V i w v → V i w' v) (hS : ∀ b c w w', Kp w w' → St b c w → St b c w') (hV1 : ∀ i, i ≠ k1 → ∀ w w' v, R1 w w' → V i w v → V i w' v) (hV2 : ∀ i, i ≠ k2 → ∀ w w' v, R2 w w' → V i w v → V i w' v) (h12 : waits ops k2 k1 = true)
  (hfit : fitsG G ops a0.tmps.size = true) (hk1 : k1 < ops.size) (hk2 : k2 < ops.size) (hG : ∀ g c, G g = some c → ∀ w v, V g w v → v = .bool c) (hU : ∀ (i : Nat) (o : Oper), ops[i]? = some o → wantsG G o = false → (i ≠ k1 ∧ i ≠ k2) ∧ V i = IsV undef) (hw : St false false w.drew)
  (loc : ∀ (i : Nat) (o : Oper), ops[i]? = some o → wantsG G o = true → ∀ a w, Leans (fun _ _ => True) V ops a0 w0 i a w →
   if i = k1 then (St false false w → o.wp P a w (fun a' w' => ∃ v, a' = a.put o.dst v ∧ R1 w w' ∧ St true false w' ∧ V i w' v) Q)
   else if i = k2 then (St true false w → o.wp P a w (fun a' w' => ∃ v, a' = a.put o.dst v ∧ R2 w w' ∧ St true true w' ∧ V i w' v) Q)
   else (∀ b c, St b c w → (∀ js, chained ops k1 i js = true → b = true) → (∀ js, chained ops i k1 js = true → b = false) → o.wp P a w (fun a' w' => ∃ v, a' = a.put o.dst v ∧ Kp w w' ∧ V i w' v) Q))
  (done : ∀ vs w, St true true w → vs.length = ops.size → (∀ i d, dstOf ops i = some d → V i w (vs.getD i undef)) → Q .normal (putAll a0 (ops.toList.map (·.dst)) vs) w) :
  (Code.region id ops true).wp P Q a0 w := by
 have look : ∀ (i : Nat) (o : Oper), ops[i]? = some o → (∀ g b, o.guard = some (g, b) → waits ops i g = true ∧ (dstOf ops g).isSome = true ∧ ((G g).isSome = true ∨ ∃ o', ops[g]? = some o' ∧ wantsG G o' = false)) ∧ (∀ e ∈ o.after, Region.binds .any e = true → e.on < i) ∧ (∀ d, o.dst = some d → d < a0.tmps.size) ∧ (∀ j, i ≠ j → ∀ d, o.dst = some d → dstOf ops j ≠ some d) := by
  intro i o ho
  have hi : i < ops.size := (Array.getElem?_eq_some_iff.1 ho).1
  have h := List.all_eq_true.1 hfit i (List.mem_range.2 hi)
  simp only [ho, Option.all_some, Bool.and_eq_true] at h
  obtain ⟨⟨⟨h1, h2⟩, h3⟩, h4⟩ := h
  refine ⟨fun g b hgb => ?_, fun e he hb => ?_, fun d hd => ?_, fun j hj d hd hx => ?_⟩
  ·rw [hgb] at h1
   simp only [Bool.and_eq_true, Bool.or_eq_true] at h1
   refine ⟨h1.1.1, h1.1.2, h1.2.imp (fun hx => hx) fun hx => ?_⟩
   cases ho' : ops[g]? with
   | none => rw [ho'] at hx; cases hx
   | some o' =>
    rw [ho'] at hx
    exact ⟨o', rfl, by simpa using hx⟩
  ·have := Array.all_eq_true_iff_forall_mem.1 h2 e he
   simpa [hb] using this
  ·rw [hd] at h3; simpa using h3
  ·have hjs : j < ops.size := by
    rcases Nat.lt_or_ge j ops.size with h' | h'
    ·exact h'
    ·simp [dstOf, Array.getElem?_eq_none h'] at hx
   have := List.all_eq_true.1 h4 j (List.mem_range.2 hjs)
   rw [hd, hx] at this
   simp [hj] at this
 have some_of : ∀ i d, dstOf ops i = some d → ∃ o, ops[i]? = some o ∧ o.dst = some d := fun i d h => by
  unfold dstOf at h
  cases ho : ops[i]? with
  | none => simp [ho] at h
  | some o => exact ⟨o, rfl, by simpa [ho] using h⟩
 have hd : ∀ i j d, dstOf ops i = some d → dstOf ops j = some d → i = j := by
  intro i j d hi hj
  obtain ⟨o, ho, hd⟩ := some_of i d hi
  exact Classical.byContradiction fun hne => (look i o ho).2.2.2 j hne d hd hj
 have hb : ∀ i d, dstOf ops i = some d → d < a0.tmps.size := by
  intro i d hi
  obtain ⟨o, ho, hd⟩ := some_of i d hi
  exact (look i o ho).2.2.1 d hd
 have hac : ∀ i j, waits ops i j = true → j < i := by
  intro i j h
  obtain ⟨o, ho, e, he, hb, rfl⟩ := (waits_iff i j).1 h
  exact (look i o ho).2.1 e he hb
 have fin : ∀ (l : Array Bool) (a : Act) (w' : World), (∀ i, i < ops.size → l.getD i false = true) → StandsAt (fun _ _ => True) V ops a0 w0 l a w' → St (l.getD k1 false) (l.getD k2 false) w' → Q .normal a w' := by
  intro l a w' hall h hs
  rw [hall k1 hk1, hall k2 hk2] at hs
  have hlen : ((ops.toList.map (·.dst)).map (slotOf a)).length = ops.size := by simp
  have hq := done ((ops.toList.map (·.dst)).map (slotOf a)) w' hs hlen (fun i d hid => by
   obtain ⟨o, ho, hd⟩ := some_of i d hid
   have hi : i < ops.size := (Array.getElem?_eq_some_iff.1 ho).1
   have hv := h.val i d (hall i hi) hid
   have e : ((ops.toList.map (·.dst)).map (slotOf a)).getD i undef = a.tmps.getD d undef := by
    rw [List.getD_eq_getElem?_getD, List.getElem?_map, List.getElem?_map, Array.getElem?_toList, ho]
    simp [hd, slotOf]
   rw [e]; exact hv)
  rw [← putAll_of a _ a0 h.defers h.tmps ?_ ?_] at hq
  ·exact hq
  ·intro d hd
   obtain ⟨o, ho, hod⟩ := List.mem_map.1 hd
   obtain ⟨i, hi, rfl⟩ := List.getElem_of_mem ho
   exact (look i ops[i] (by simp at hi; simp [hi])).2.2.1 d (by simpa using hod)
  ·intro t ht
   refine h.old t fun i _ hid => ht ?_
   obtain ⟨o, ho, hd⟩ := some_of i t hid
   refine List.mem_map.2 ⟨o, ?_, hd⟩
   rw [← Array.mem_def]
   exact Array.mem_of_getElem? ho
 have go : ∀ (fuel : Nat) (l : Array Bool) (a : Act) (w : World), (leftOver ops.size l).length ≤ fuel → StandsAt (fun _ _ => True) V ops a0 w0 l a w → St (l.getD k1 false) (l.getD k2 false) w → wpAny P .any ops Q fuel l a w := by
  intro fuel
  induction fuel with
  | zero =>
   intro l a w hf h hs
   have hn : leftOver ops.size l = [] := List.eq_nil_of_length_eq_zero (by omega)
   have hnot : ∀ i, i < ops.size → l.getD i false = true := fun i hi => by
    have hm : i ∉ leftOver ops.size l := by rw [hn]; simp
    have hl' : i < l.size := by rw [h.size]; exact hi
    unfold leftOver at hm
    simp only [List.mem_filter, List.mem_range, hi, true_and, Array.getD, hl'] at hm ⊢
    simpa using hm
   refine ⟨?_, fin l a w hnot h hs⟩
   refine List.eq_nil_iff_forall_not_mem.2 fun i hi => ?_
   have hm := (mem_ready.1 hi).1
   have hx := getD_false_of hm
   rw [hnot i (by rw [← h.size]; exact hx.2)] at hx
   exact absurd hx.1 (by simp)
  | succ fuel ih =>
   intro l a w hf h hs
   refine ⟨fun hr => fin l a w (all_listed hac h.size hr) h hs, fun i hi => ?_⟩
   obtain ⟨hl, o, ho, hall⟩ := mem_ready.1 hi
   have hwt : ∀ j, waits ops i j = true → l.getD j false = true := fun j hj => by
    obtain ⟨o', ho', e, he, hb', rfl⟩ := (waits_iff i j).1 hj
    rw [ho] at ho'; cases ho'
    exact hall e he hb'
   have hdst : o.dst = dstOf ops i := by simp [dstOf, ho]
   have hleft : (leftOver ops.size (l.setIfInBounds i true)).length ≤ fuel := by
    have := leftOver_set ops.size l i (by rw [← h.size]; exact (getD_false_of hl).2) hl
    omega
   have hwant := wanted_is (h.leans hl hwt) (fun j d hj => by rw [h.tmps]; exact hb j d hj) (look i o ho).1 hG (fun i o ho hw => (hU i o ho hw).2)
   have hset : ∀ k, i ≠ k → (l.setIfInBounds i true).getD k false = l.getD k false := fun k hne => getD_set_ne false hne
   have hself : (l.setIfInBounds i true).getD i false = true := by simp [(getD_false_of hl).2]
   have hloc := loc i o ho
   unfold wpOp
   cases hwo : wantsG G o
   ·rw [hwo] at hwant
    obtain ⟨hne, hu⟩ := hU i o ho hwo
    simp only [ho, hwant, Bool.false_eq_true, if_false]
    rw [hdst]
    exact ih _ _ _ hleft (h.step' trivial (fun _ => trivial) hd hb hl (fun _ _ _ hh => hh) hwt (by rw [hu]; rfl)) (by rw [hset _ hne.1, hset _ hne.2]; exact hs)
   ·rw [hwo] at hwant
    simp only [ho, hwant, if_true]
    have hlc := hloc hwo a w (h.leans hl hwt)
    by_cases hi1 : i = k1
    ·subst hi1
     rw [if_pos rfl] at hlc
     have hlf := (getD_false_of hl).1
     have hl2 : l.getD k2 false = false := by
      cases hx : l.getD k2 false with
      | false => rfl
      | true =>
       have := h.down k2 i hx h12
       rw [hlf] at this; cases this
     have hne : i ≠ k2 := fun e => by
      have h1 := hac k2 i h12
      omega
     rw [hlf, hl2] at hs
     refine .inl (Oper.wp_mono (fun a' w' hk' => ?_) (hlc hs))
     obtain ⟨v, rfl, hr, hst, hv⟩ := hk'
     rw [hdst]
     refine ih _ _ _ hleft (h.step' trivial (fun _ => trivial) hd hb hl (fun j u hj hu => ?_) hwt hv) (by
      rw [hself, hset _ hne, hl2]; exact hst)
     exact hV1 j (fun e => by subst e; rw [hj] at hlf; cases hlf) w w' u hr hu
    ·rw [if_neg hi1] at hlc
     by_cases hi2 : i = k2
     ·subst hi2
      rw [if_pos rfl] at hlc
      have hlf := (getD_false_of hl).1
      have hl1 := hwt k1 h12
      rw [hlf, hl1] at hs
      refine .inl (Oper.wp_mono (fun a' w' hk' => ?_) (hlc hs))
      obtain ⟨v, rfl, hr, hst, hv⟩ := hk'
      rw [hdst]
      refine ih _ _ _ hleft (h.step' trivial (fun _ => trivial) hd hb hl (fun j u hj hu => ?_) hwt hv) (by
       rw [hself, hset _ hi1, hl1]; exact hst)
      exact hV2 j (fun e => by subst e; rw [hj] at hlf; cases hlf) w w' u hr hu
     ·rw [if_neg hi2] at hlc
      refine .inl (Oper.wp_mono (fun a' w' hk' => ?_) (hlc _ _ hs (fun js hbh => chained_listed h js i hwt hbh) (fun js hbh => ?_)))
      ·obtain ⟨v, rfl, hr, hv⟩ := hk'
       rw [hdst]
       exact ih _ _ _ hleft (h.step' trivial (fun _ => trivial) hd hb hl (fun j u _ hu => hV j w w' u hr hu) hwt hv) (by rw [hset _ hi1, hset _ hi2]; exact hS _ _ _ _ hr hs)
      ·cases hx : l.getD k1 false with
       | false => rfl
       | true =>
        have := chained_listed h js k1 (fun j hj => h.down k1 j hx hj) hbh
        rw [(getD_false_of hl).1] at this; cases this
 refine wp_region_any hm ?_
 refine go ops.size _ a0 _ ?_ ?_ ?_
 ·refine Nat.le_trans (List.length_filter_le _ _) ?_
  simp
 ·refine ⟨by simp, trivial, rfl, rfl, fun _ _ => rfl, ?_, ?_⟩
  ·intro i d h; exact absurd h (by simp [Array.getD])
  ·intro i j h; exact absurd h (by simp [Array.getD])
 ·have : ∀ k, (Array.replicate ops.size false).getD k false = false := fun k => by simp [Array.getD]
  rw [this, this]; exact hw
end
section
variable {P : Program} {ops : Array Oper} {Q : Exit → Act → World → Prop} {V : Nat → World → Value → Prop} {a0 : Act} {w0 : World} {G : Nat → Option Bool} {St : Bool → World → Prop} {Rk : World → World → Prop} {k : Nat}
theorem rowsIn_wide' {n : Nat} {row : String} {args : Array Value} {w : World} {R : Value → World → Prop} (h : Rows P row args w R) : RowsIn Fence.wide n P row args w R := fun c cs _ =>
 let ⟨v, w', r, s⟩ := h c cs
 ⟨v, w', r, stepsIn_wide.2 s⟩
theorem wpIn_round_of_wp {n l : Nat} {o : Oper} {a : Act} {w : World} {K : Act → World → Prop} (hd : ∀ c, o.op ≠ .defer c) (hh : o.wp P a w K Q) : o.wpIn (Fence.wide.inRound l) n P a w K Q := by
 refine ⟨fun _ _ => trivial, ?_⟩
 show o.uponIn (Fence.wide.inRound l) n P a K Q ((o.semAt (some l) a.eval).run P w)
 rw [Oper.semAt_some l a.eval o hd]
 unfold Oper.wp at hh
 have hdep : ((Fence.wide.inRound l).depth.isSome = true → 1 ≤ n) := fun h => by cases h
 generalize (execOp a.eval o).run P w = r at hh ⊢
 cases r with
 | ok x w' =>
  cases x with
  | value v => exact hh
  | skip => exact hh
  | «defer» d => exact hh
  | enter f args => exact ⟨hdep, CallsIn.inRound l (callsIn_wide.2 hh)⟩
  | row row args => exact ⟨hdep, rowsIn_wide' hh⟩
  | _ => exact hh.elim
 | halt x w' => cases x <;> exact hh
theorem wpIn_region_one {n lp id : Nat} {w : World} (k : Nat) (St : Bool → World → Prop) (Rk : World → World → Prop) (G : Nat → Option Bool) (hm : P.follows .mixedOrders = true) (hnd : ∀ o ∈ ops, ∀ c, o.op ≠ .defer c)
  (hV : ∀ i w w' v, Kp w w' → V i w v → V i w' v) (hS : ∀ b w w', Kp w w' → St b w → St b w') (hVk : ∀ i, i ≠ k → ∀ w w' v, Rk w w' → V i w v → V i w' v)
  (hfit : fitsG G ops a0.tmps.size = true) (hk : k < ops.size) (hG : ∀ g c, G g = some c → ∀ w v, V g w v → v = .bool c) (hU : ∀ (i : Nat) (o : Oper), ops[i]? = some o → wantsG G o = false → i ≠ k ∧ V i = IsV undef) (hw : St false w.drew)
  (loc : ∀ (i : Nat) (o : Oper), ops[i]? = some o → wantsG G o = true → ∀ a w, Leans (fun _ _ => True) V ops a0 w0 i a w →
   if i = k then (St false w → o.wp P a w (fun a' w' => ∃ v, a' = a.put o.dst v ∧ Rk w w' ∧ St true w' ∧ V i w' v) Q)
   else (∀ b, St b w → (∀ js, chained ops k i js = true → b = true) → o.wp P a w (fun a' w' => ∃ v, a' = a.put o.dst v ∧ Kp w w' ∧ V i w' v) Q))
  (done : ∀ vs w, St true w → vs.length = ops.size → (∀ i d, dstOf ops i = some d → V i w (vs.getD i undef)) → Q .normal (putAll a0 (ops.toList.map (·.dst)) vs) w) :
  (Code.region id ops true).wpIn (Fence.wide.inRound lp) n P Q a0 w := by
 have look : ∀ (i : Nat) (o : Oper), ops[i]? = some o → (∀ g b, o.guard = some (g, b) → waits ops i g = true ∧ (dstOf ops g).isSome = true ∧ ((G g).isSome = true ∨ ∃ o', ops[g]? = some o' ∧ wantsG G o' = false)) ∧ (∀ e ∈ o.after, Region.binds .any e = true → e.on < i) ∧ (∀ d, o.dst = some d → d < a0.tmps.size) ∧ (∀ j, i ≠ j → ∀ d, o.dst = some d → dstOf ops j ≠ some d) := by
  intro i o ho
  have hi : i < ops.size := (Array.getElem?_eq_some_iff.1 ho).1
  have h := List.all_eq_true.1 hfit i (List.mem_range.2 hi)
  simp only [ho, Option.all_some, Bool.and_eq_true] at h
  obtain ⟨⟨⟨h1, h2⟩, h3⟩, h4⟩ := h
  refine ⟨fun g b hgb => ?_, fun e he hb => ?_, fun d hd => ?_, fun j hj d hd hx => ?_⟩
  ·rw [hgb] at h1
   simp only [Bool.and_eq_true, Bool.or_eq_true] at h1
   refine ⟨h1.1.1, h1.1.2, h1.2.imp (fun hx => hx) fun hx => ?_⟩
   cases ho' : ops[g]? with
   | none => rw [ho'] at hx; cases hx
   | some o' =>
    rw [ho'] at hx
    exact ⟨o', rfl, by simpa using hx⟩
  ·have := Array.all_eq_true_iff_forall_mem.1 h2 e he
   simpa [hb] using this
  ·rw [hd] at h3; simpa using h3
  ·have hjs : j < ops.size := by
    rcases Nat.lt_or_ge j ops.size with h' | h'
    ·exact h'
    ·simp [dstOf, Array.getElem?_eq_none h'] at hx
   have := List.all_eq_true.1 h4 j (List.mem_range.2 hjs)
   rw [hd, hx] at this
   simp [hj] at this
 have some_of : ∀ i d, dstOf ops i = some d → ∃ o, ops[i]? = some o ∧ o.dst = some d := fun i d h => by
  unfold dstOf at h
  cases ho : ops[i]? with
  | none => simp [ho] at h
  | some o => exact ⟨o, rfl, by simpa [ho] using h⟩
 have hd : ∀ i j d, dstOf ops i = some d → dstOf ops j = some d → i = j := by
  intro i j d hi hj
  obtain ⟨o, ho, hd⟩ := some_of i d hi
  exact Classical.byContradiction fun hne => (look i o ho).2.2.2 j hne d hd hj
 have hb : ∀ i d, dstOf ops i = some d → d < a0.tmps.size := by
  intro i d hi
  obtain ⟨o, ho, hd⟩ := some_of i d hi
  exact (look i o ho).2.2.1 d hd
 have hac : ∀ i j, waits ops i j = true → j < i := by
  intro i j h
  obtain ⟨o, ho, e, he, hb, rfl⟩ := (waits_iff i j).1 h
  exact (look i o ho).2.1 e he hb
 have fin : ∀ (l : Array Bool) (a : Act) (w' : World), (∀ i, i < ops.size → l.getD i false = true) → StandsAt (fun _ _ => True) V ops a0 w0 l a w' → St (l.getD k false) w' → Q .normal a w' := by
  intro l a w' hall h hs
  rw [hall k hk] at hs
  have hlen : ((ops.toList.map (·.dst)).map (slotOf a)).length = ops.size := by simp
  have hq := done ((ops.toList.map (·.dst)).map (slotOf a)) w' hs hlen (fun i d hid => by
   obtain ⟨o, ho, hd⟩ := some_of i d hid
   have hi : i < ops.size := (Array.getElem?_eq_some_iff.1 ho).1
   have hv := h.val i d (hall i hi) hid
   have e : ((ops.toList.map (·.dst)).map (slotOf a)).getD i undef = a.tmps.getD d undef := by
    rw [List.getD_eq_getElem?_getD, List.getElem?_map, List.getElem?_map, Array.getElem?_toList, ho]
    simp [hd, slotOf]
   rw [e]; exact hv)
  rw [← putAll_of a _ a0 h.defers h.tmps ?_ ?_] at hq
  ·exact hq
  ·intro d hd
   obtain ⟨o, ho, hod⟩ := List.mem_map.1 hd
   obtain ⟨i, hi, rfl⟩ := List.getElem_of_mem ho
   exact (look i ops[i] (by simp at hi; simp [hi])).2.2.1 d (by simpa using hod)
  ·intro t ht
   refine h.old t fun i _ hid => ht ?_
   obtain ⟨o, ho, hd⟩ := some_of i t hid
   refine List.mem_map.2 ⟨o, ?_, hd⟩
   rw [← Array.mem_def]
   exact Array.mem_of_getElem? ho
 have go : ∀ (fuel : Nat) (l : Array Bool) (a : Act) (w : World), (leftOver ops.size l).length ≤ fuel → StandsAt (fun _ _ => True) V ops a0 w0 l a w → St (l.getD k false) w → wpAnyIn (Fence.wide.inRound lp) n P .any ops Q fuel l a w := by
  intro fuel
  induction fuel with
  | zero =>
   intro l a w hf h hs
   have hn : leftOver ops.size l = [] := List.eq_nil_of_length_eq_zero (by omega)
   have hnot : ∀ i, i < ops.size → l.getD i false = true := fun i hi => by
    have hm : i ∉ leftOver ops.size l := by rw [hn]; simp
    have hl' : i < l.size := by rw [h.size]; exact hi
    unfold leftOver at hm
    simp only [List.mem_filter, List.mem_range, hi, true_and, Array.getD, hl'] at hm ⊢
    simpa using hm
   refine ⟨?_, fin l a w hnot h hs⟩
   refine List.eq_nil_iff_forall_not_mem.2 fun i hi => ?_
   have hm := (mem_ready.1 hi).1
   have hx := getD_false_of hm
   rw [hnot i (by rw [← h.size]; exact hx.2)] at hx
   exact absurd hx.1 (by simp)
  | succ fuel ih =>
   intro l a w hf h hs
   refine ⟨fun hr => fin l a w (all_listed hac h.size hr) h hs, fun i hi => ?_⟩
   obtain ⟨hl, o, ho, hall⟩ := mem_ready.1 hi
   have hwt : ∀ j, waits ops i j = true → l.getD j false = true := fun j hj => by
    obtain ⟨o', ho', e, he, hb', rfl⟩ := (waits_iff i j).1 hj
    rw [ho] at ho'; cases ho'
    exact hall e he hb'
   have hdst : o.dst = dstOf ops i := by simp [dstOf, ho]
   have hleft : (leftOver ops.size (l.setIfInBounds i true)).length ≤ fuel := by
    have := leftOver_set ops.size l i (by rw [← h.size]; exact (getD_false_of hl).2) hl
    omega
   have hwant := wanted_is (h.leans hl hwt) (fun j d hj => by rw [h.tmps]; exact hb j d hj) (look i o ho).1 hG (fun i o ho hw => (hU i o ho hw).2)
   have hset : ∀ (hne : i ≠ k), (l.setIfInBounds i true).getD k false = l.getD k false := fun hne => getD_set_ne false hne
   have hloc := loc i o ho
   unfold wpOpIn
   cases hwo : wantsG G o
   ·rw [hwo] at hwant
    obtain ⟨hne, hu⟩ := hU i o ho hwo
    simp only [ho, hwant, Bool.false_eq_true, if_false]
    rw [hdst]
    exact ⟨fun _ _ => trivial, ih _ _ _ hleft (h.step' trivial (fun _ => trivial) hd hb hl (fun _ _ _ hh => hh) hwt (by rw [hu]; rfl)) (by rw [hset hne]; exact hs)⟩
   ·rw [hwo] at hwant
    simp only [ho, hwant, if_true]
    have hlc := hloc hwo a w (h.leans hl hwt)
    by_cases hik : i = k
    ·subst hik
     rw [if_pos rfl] at hlc
     have hlf := (getD_false_of hl).1
     rw [hlf] at hs
     refine wpIn_round_of_wp (hnd o (Array.mem_of_getElem? ho)) (Oper.wp_mono (fun a' w' hk' => ?_) (hlc hs))
     obtain ⟨v, rfl, hr, hst, hv⟩ := hk'
     rw [hdst]
     refine ih _ _ _ hleft (h.step' trivial (fun _ => trivial) hd hb hl (fun j u hj hu => ?_) hwt hv) (by
      have : (l.setIfInBounds i true).getD i false = true := by simp [(getD_false_of hl).2]
      rw [this]; exact hst)
     exact hVk j (fun e => by subst e; rw [hj] at hlf; cases hlf) w w' u hr hu
    ·rw [if_neg hik] at hlc
     refine wpIn_round_of_wp (hnd o (Array.mem_of_getElem? ho)) (Oper.wp_mono (fun a' w' hk' => ?_) (hlc _ hs (fun js hbh => chained_listed h js i hwt hbh)))
     obtain ⟨v, rfl, hr, hv⟩ := hk'
     rw [hdst]
     exact ih _ _ _ hleft (h.step' trivial (fun _ => trivial) hd hb hl (fun j u _ hu => hV j w w' u hr hu) hwt hv) (by rw [hset hik]; exact hS _ _ _ hr hs)
 refine wpIn_region_any hm ?_
 refine go ops.size _ a0 _ ?_ ?_ ?_
 ·refine Nat.le_trans (List.length_filter_le _ _) ?_
  simp
 ·refine ⟨by simp, trivial, rfl, rfl, fun _ _ => rfl, ?_, ?_⟩
  ·intro i d h; exact absurd h (by simp [Array.getD])
  ·intro i j h; exact absurd h (by simp [Array.getD])
 ·have : (Array.replicate ops.size false).getD k false = false := by simp [Array.getD]
  rw [this]; exact hw
end
end Go.Proofs.YticophaepapjoaaGreatDoor
