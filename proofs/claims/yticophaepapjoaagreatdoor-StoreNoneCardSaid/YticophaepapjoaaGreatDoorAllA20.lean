/-
  SlgCollect, SlgOpen, SlgSecs, SlgInv: texts of mine, joined.
-/
import Derived.Test.YticophaepapjoaaGreatDoorAllA19
import Derived.Test.YticophaepapjoaaGreatDoorAllA08
namespace Go.Proofs.YticophaepapjoaaGreatDoor
open Go Go.RowKit Go.Joins Go.Shelf
theorem mod_back (x n : Nat) (hx : 1 ≤ x) (hn : 1 ≤ n) : (x % n + n - 1) % n = (x - 1) % n := by
 have e1 : x % n + n - 1 = x % n + (n - 1) := by omega
 have e2 : x + (n - 1) = (x - 1) + n := by omega
 rw [e1, Nat.mod_add_mod, e2, Nat.add_mod_right]
theorem rev_lt {n j : Nat} (h : j < n) : n - 1 - j < n := by omega
def slotBack (b0 n m j : Nat) : Nat := (b0 + n + m - 1 - j) % n
theorem slotBack_at {n b0 : Nat} {ks : List Seg} (h : Chain n b0 ks) (j : Nat) (hj : j < ks.length) : slotBack b0 n ks.length j = (ks[ks.length - 1 - j]'(rev_lt hj)).slot := by
 rw [h.slot]
 unfold slotBack
 rw [show b0 + n + ks.length - 1 - j = b0 + (ks.length - 1 - j) + n by omega, Nat.add_mod_right]
theorem slotBack_next {n b0 m j : Nat} (hn : 1 ≤ n) (hm : 1 ≤ m) (hj : j < m) : (slotBack b0 n m j + n - 1) % n = slotBack b0 n m (j + 1) := by
 unfold slotBack
 rw [mod_back _ _ (by omega) hn, show b0 + n + m - 1 - j - 1 = b0 + n + m - 1 - (j + 1) by omega]
theorem Coll.rev {w0 w w' : World} {q g c : Nat} {d : List SegP} (h : Coll w0 w q (.slice (some ⟨g, 0, none⟩) d.length c) d) (hr : w'.ownsRow 0 179 3 (.slice (some ⟨g, 0, none⟩) d.length c) d.length (encP d.reverse)) (hg : w.grownBy w' (some g)) : Coll w0 w' q (.slice (some ⟨g, 0, none⟩) d.length c) d.reverse := by
 have hk : Keeps (fun b => b ≠ g) w w' := Keeps.of_grown hg fun b hb _ hn => hn (by injection hb with hb; exact hb.symm)
 refine ⟨by rw [List.length_reverse]; exact hr, h.kb, fun x hx => hk.own (h.own x (List.mem_reverse.1 hx)) fun b e e2 => (h.eb x (List.mem_reverse.1 hx) b e).2 (by rw [e2]; rfl), fun x hx => h.eb x (List.mem_reverse.1 hx), ?_⟩
 rw [List.map_reverse]
 exact List.pairwise_reverse.2 (h.two.imp fun h => h.symm)
theorem rev_exit (w wr : World) (q p i n g c cs nx : Nat) (d : List SegP) (ks : List Seg) (hdl : d.length ≤ 200) (hq : q < w.heap.size) (hcol : Coll w wr q (.slice (some ⟨g, 0, none⟩) d.length c) d) (hblk : LBlk wr q p i n (.slice (some ⟨g, 0, none⟩) d.length c) cs 0 (.slice none 0 0) nx) (hkw : Keeps (fun b => b ≠ q) w wr) (hdr : d.map Prod.fst = ks.reverse) :
  ∀ W, Kp wr W → Calls Tryz.prog 193 #[.slice (some ⟨g, 0, none⟩) d.length c] W fun e w' => e = .returned (.tuple #[]) ∧
   ∃ (K : Value) (d' : List SegP), d'.map Prod.fst = ks ∧ LBlk w' q p i n K cs 0 (.slice none 0 0) nx ∧ Coll w w' q K d' ∧ Keeps (fun b => b ≠ q) w w' := by
 intro W hW
 have hc := hcol.keep (hW.mono fun _ _ _ => trivial)
 refine (reverse_any W g c d.length d rfl hc.row (by omega)).mono ?_
 rintro e w' ⟨rfl, ho, hg⟩
 have hgw : w.heap.size ≤ g := hcol.kb g rfl
 have hk : Keeps (fun b => b ≠ g) W w' := Keeps.of_grown hg fun b hb _ hn => hn (by injection hb with hb; exact hb.symm)
 refine ⟨rfl, _, d.reverse, by rw [List.map_reverse, hdr, List.reverse_reverse], (hblk.keep hW trivial).keep hk (by show q ≠ g; omega), hc.rev ho hg, keeps_on (keeps_on hkw hW fun _ _ _ => trivial) hk fun b hl _ => by show b ≠ g; omega⟩
theorem Coll.nil (w w' : World) (q : Nat) : Coll w w' q (.slice none 0 0) [] where
 row := World.ownsRow_nil _ _ _ _
 kb := fun b e => nomatch e
 own := fun x hx => nomatch hx
 eb := fun x hx => nomatch hx
 two := List.Pairwise.nil
set_option maxRecDepth 100000 in
set_option maxHeartbeats 2000000 in
theorem collect_any (w : World) (hT : Taken w) (q p i n : Nat) (nx : Nat) (sl0 : Nat) (hB : LBlk w q p i n (.slice none 0 0) sl0 0 (.slice none 0 0) nx) (F : Foot) (s : SDev) (hd : DAt w p F s) (hq : ¬ F.all q) (hqt : 0 ≠ q) (ks : List Seg) (b0 : Nat) (hch : Chain n b0 ks) (m : Nat) (hm : ks.length = m) (hm1 : 1 ≤ m) (hon : OnDisk s.now i n ks)
  (hi : i ≤ 2048) (hn : n ≤ 200) (hin : i + 8 * n ≤ s.now.length) (hf : ∀ sg ∈ ks, sg.first ≤ 274877906943) (hend : ∀ sg ∈ ks, sg.end_ ≤ nx) (hnx : nx ≤ 549755813888) (ls : Nat) (hls : ls = slotBack b0 n m 0) :
  Calls Tryz.prog 167 #[.pointer (some ⟨q, 0, none⟩), .int .i64 (ls : Int)] w fun e w' => (∃ v, e = .returned v) ∧
   ∃ (K : Value) (d : List SegP), d.map Prod.fst = ks ∧ LBlk w' q p i n K ((b0 + m) % n) 0 (.slice none 0 0) nx ∧ Coll w w' q K d ∧ Keeps (fun b => b ≠ q) w w' := by
 have hmn : m ≤ n := by rw [← hm]; exact hch.len
 have hqlt : q < w.heap.size := (Array.getElem?_eq_some_iff.1 hB).1
 have HKD := Lib.hid (fun (W : World) (hk : Keeps (fun b => b ≠ q) w W) => hd.keep (hk.mono fun b _ hb e => hq (by rw [← e]; exact hb)))
 have HKT := Lib.hid (show ∀ W, Keeps (fun b => b ≠ q) w W → Taken W from fun W hk k hk16 => hk.cell (hT k hk16) hqt)
 have HYES := Lib.hid (fun (W : World) (hk : Keeps (fun b => b ≠ q) w W) (hL : LHead W q p i n) (j : Nat) (hj : j < ks.length) =>
  segm_yes W (HKT.out W hk) q p i n hL F s (HKD.out W hk) (ks[ks.length - 1 - j]'(rev_lt hj)) (hch.ok _ (List.getElem_mem _)) (hch.full _ (List.getElem_mem _)) (hon.on _ (List.getElem_mem _)) hi (by have := hch.slot_lt _ (List.getElem_mem (rev_lt hj)); omega) (hf _ (List.getElem_mem _)) (by have := hch.slot_lt _ (List.getElem_mem (rev_lt hj)); omega))
 have hnob : m < n → secAt s.now i (slotBack b0 n m m) 0 = none := fun hlt => by
  refine hon.none _ (Nat.mod_lt _ (by omega)) (fun sg hsg e => ?_) 0 (by decide)
  obtain ⟨t, ht, rfl⟩ := List.getElem_of_mem hsg
  rw [hch.slot t ht] at e
  have hb := hch.base
  have e : (b0 + t) % n = (b0 + n + m - 1 - m) % n := e
  rw [show b0 + n + m - 1 - m = b0 + (n - 1) by omega] at e
  have e1 : (b0 + t) % n = if b0 + t < n then b0 + t else b0 + t - n := by
   split
   ·exact Nat.mod_eq_of_lt (by assumption)
   ·rw [Nat.mod_eq_sub_mod (by omega), Nat.mod_eq_of_lt (by omega)]
  have e2 : (b0 + (n - 1)) % n = if b0 + (n - 1) < n then b0 + (n - 1) else b0 + (n - 1) - n := by
   split
   ·exact Nat.mod_eq_of_lt (by assumption)
   ·rw [Nat.mod_eq_sub_mod (by omega), Nat.mod_eq_of_lt (by omega)]
  rw [e1, e2] at e
  split at e <;> split at e <;> omega
 have HNO := Lib.hid (fun (W : World) (hk : Keeps (fun b => b ≠ q) w W) (hL : LHead W q p i n) (hlt : m < n) => segm_no W (HKT.out W hk) q p i n hL F s (HKD.out W hk) (slotBack b0 n m m) hi (by have := Nat.mod_lt (b0 + n + m - 1 - m) (show 0 < n by omega); unfold slotBack; omega) (by have := Nat.mod_lt (b0 + n + m - 1 - m) (show 0 < n by omega); unfold slotBack; omega) (hnob hlt))
 have HSB := Lib.hid (fun (j : Nat) (hj : j < ks.length) => slotBack_at hch j hj)
 have HSN := Lib.hid (fun (j : Nat) (hj : j < m) => slotBack_next (b0 := b0) (n := n) (by omega) hm1 hj)
 have HSL := Lib.hid (show ∀ j, slotBack b0 n m j < n from fun j => Nat.mod_lt _ (by omega))
 have HEND := Lib.hid hend
 have HM := Lib.hid hm
 have HB := Lib.hid hB
 have HLS := Lib.hid hls
 have HCNT := Lib.hid (fun sg (h : sg ∈ ks) => (hch.ok sg h).count)
 have HFULL := Lib.hid (fun sg (h : sg ∈ ks) => List.length_pos_iff.2 (hch.full sg h))
 have HRISE := Lib.hid hch.rise
 have HF := Lib.hid hf
 have HBM := Lib.hid (show ((slotBack b0 n m 0) + 1) % n = (b0 + m) % n from by
  unfold slotBack
  rw [Nat.mod_add_mod, show b0 + n + m - 1 - 0 + 1 = b0 + m + n by omega, Nat.add_mod_right])
 have c2 := (cell_of_block hB 2).trans rfl
 have c4 := (cell_of_block hB 4).trans rfl
 have f4 := unfrozen_of_block hB 4
 have c7 := (cell_of_block hB 7).trans rfl
 have hb1 := block_setCell hB (i := 4) (.int .i64 (ls : Int))
 have hk1 : Keeps (fun b => b ≠ q) w (w.setCell ⟨q, 4, none⟩ (.int .i64 (ls : Int))) := (Keeps.refl _ w).setCell (.inr fun hn => hn rfl) _
 have HB1 := Lib.hid (show LBlk (w.setCell ⟨q, 4, none⟩ (.int .i64 (ls : Int))) q p i n (.slice none 0 0) ls 0 (.slice none 0 0) nx from hb1)
 have HK1 := Lib.hid hk1
 clear hT hB hd hq hqt hch hon hf hend hm hls hb1 hk1 hnob hin
 go_enter Tryz.func167, Tryz.ntmps167
 go_wp2_with fail
 go_loopw [1, 4, 20] (fun v1 v4 vi wr => ∃ (j f cs : Nat) (K : Value) (d : List SegP), j ≤ m ∧ vi = .int .i64 j ∧ v1 = .int .i64 ((slotBack b0 n m j : Nat) : Int) ∧ v4 = .int .i64 (f : Int) ∧ f ≤ 549755813888 ∧ RowKit.Hid (∀ t (ht : t < ks.length), t + j < m → (ks[t]).end_ ≤ f) ∧ RowKit.Hid (d.map Prod.fst = ks.reverse.take j) ∧
   RowKit.Hid (LBlk wr q p i n K cs 0 (.slice none 0 0) nx) ∧ RowKit.Hid ((j = 0 → cs = ls) ∧ (0 < j → cs = (b0 + m) % n)) ∧ RowKit.Hid (Coll w wr q K d) ∧ RowKit.Hid (Keeps (fun b => b ≠ q) w wr)) (fun _ _ vi _ => n - (intOf vi).toNat)
 case atStart => exact ⟨0, nx, ls, .slice none 0 0, [], Nat.zero_le _, rfl, by rw [HLS.out], rfl, hnx, Lib.hid (fun t ht _ => HEND.out _ (List.getElem_mem _)), Lib.hid rfl, HB1, Lib.hid ⟨fun _ => rfl, fun h => absurd h (by decide)⟩, Lib.hid (Coll.nil _ _ _), HK1⟩
 case round =>
  obtain ⟨j, f, cs, K, d, hj, rfl, rfl, rfl, hfb, hfs, hds, hblk, hcs, hcol, hkw⟩ := hrel
  have hbq : q < wr.heap.size := (Array.getElem?_eq_some_iff.1 hblk.out).1
  obtain ⟨AK, cK, rfl⟩ := own_form hcol.out.row
  have hdl : d.length = j := by
   have := congrArg List.length hds.out
   rw [List.length_map, List.length_take, List.length_reverse, HM.out] at this
   omega
  have hzw : w.heap.size ≤ wr.heap.size := hkw.out.size
  by_cases hjn : j < n
  ·have tjn : decide ((j : Int) < (n : Int)) = true := by simp; omega
   by_cases hjm : j < m
   ·have hjk : j < ks.length := by rw [HM.out]; exact hjm
    obtain ⟨sg, hsg⟩ : ∃ sg, ks[ks.length - 1 - j]'(rev_lt hjk) = sg := ⟨_, rfl⟩
    have hsl : slotBack b0 n m j = sg.slot := by rw [← hsg, ← HSB.out j hjk, HM.out]
    have hmem : sg ∈ ks := hsg ▸ List.getElem_mem _
    have hcall := HYES.out wr hkw.out hblk.out.head j hjk
    rw [hsg] at hcall
    have hefs := hfs.out _ (rev_lt hjk) (by rw [HM.out]; omega)
    rw [hsg] at hefs
    unfold Seg.end_ at hefs
    have hcnt := HCNT.out sg hmem
    have hpos := HFULL.out sg hmem
    have hfirst := HF.out sg hmem
    obtain ⟨rl, hrl⟩ : ∃ rl, sg.recs.length = rl := ⟨_, rfl⟩
    rw [hrl] at hcall hefs hcnt hpos
    have HCALL := Lib.hid hcall
    have HSG := Lib.hid hsg
    have HSLT := Lib.hid hsl
    have HRL := Lib.hid hrl
    have hslb : sg.slot < n := by rw [← hsl]; exact HSL.out j
    have HNX := Lib.hid (HSN.out j hjm)
    have tgt : decide ((f : Int) < (sg.first : Int) + (rl : Int)) = false := by simp; omega
    have tpos : decide ((0 : Int) < (rl : Int)) = true := by simp; omega
    have tpos2 : decide (0 < rl) = true := by simp; omega
    rw [hsl]
    clear hcall hsg hsl hrl
    go_wp2_with fail
    refine HCALL.out.mono ?_
    rintro e w1 ⟨A, c, rfl, ho1, hk1⟩
    have HO1 := Lib.hid ho1
    have HK1' := Lib.hid hk1
    clear ho1 hk1
    go_wp2_with fail
    refine (snext_any _ sg.slot sg.first A rl c (by omega) (by omega)).mono ?_
    rintro e w3 ⟨rfl, hk3⟩
    have hbox := heap_alloc_new w1 (.cells #[.int .i64 (sg.slot : Int), .int .i64 (sg.first : Int), .slice A rl c] 179)
    have hw12 : Kp w1 (w1.alloc (.cells #[.int .i64 (sg.slot : Int), .int .i64 (sg.first : Int), .slice A rl c] 179)) := (Keeps.refl _ w1).alloc _
    have hb3 := (hk3.block w1.heap.size trivial (by simp)).trans hbox
    have x0 := (cell_of_block hb3 0).trans rfl
    have x1 := (cell_of_block hb3 1).trans rfl
    have x2 := (cell_of_block hb3 2).trans rfl
    have HB3 := Lib.hid hb3
    have HK3 := Lib.hid (show Kp wr w3 from HK1'.out.trans (hw12.trans hk3))
    have hz1 := HK1'.out.size
    have hz3 : w1.heap.size < w3.heap.size := (Array.getElem?_eq_some_iff.1 hb3).1
    have HO3 := Lib.hid ((hw12.trans hk3).own HO1.out fun _ _ => trivial)
    clear hk3 hbox hw12 hb3
    go_wp2_with fail
    refine (count_any _ (.int .i64 (sg.slot : Int)) (.int .i64 (sg.first : Int)) A rl c rfl rfl).mono ?_
    rintro e w4 ⟨rfl, hk4⟩
    have hb4 := (hk4.block w1.heap.size trivial hz3).trans HB3.out
    have x0 := (cell_of_block hb4 0).trans rfl
    have x1 := (cell_of_block hb4 1).trans rfl
    have x2 := (cell_of_block hb4 2).trans rfl
    have HB4 := Lib.hid hb4
    have HK4 := Lib.hid (HK3.out.trans hk4)
    have HO4 := Lib.hid (hk4.own HO3.out fun _ _ => trivial)
    have hz4 : w3.heap.size ≤ w4.heap.size := hk4.size
    have hblk4 := hblk.out.keep HK4.out trivial
    have HBLK4 := Lib.hid hblk4
    have c3 := (cell_of_block hblk4 3).trans rfl
    clear hk4 hb4 hblk4
    go_wp2_with fail
    have hOlt : ∀ b, (Value.slice AK d.length cK).ownBlock = some b → w.heap.size ≤ b ∧ b < wr.heap.size := fun b e => ⟨hcol.out.kb b e, (hcol.out.row.lt b e).2⟩
    have HOLT := Lib.hid hOlt
    have HROW4 := Lib.hid (HK4.out.own hcol.out.row fun _ _ => trivial)
    have hz4r : wr.heap.size ≤ w4.heap.size := HK4.out.size
    have HC3 := Lib.hid c3
    have HX0 := Lib.hid x0
    have HX1 := Lib.hid x1
    have HX2 := Lib.hid x2
    refine wp_region_two (V := VC w4.heap.size q (.slice AK d.length cK) (.agg #[.int .i64 (sg.slot : Int), .int .i64 (sg.first : Int), .slice A rl c]) [.int .i64 (sg.slot : Int), .int .i64 (sg.first : Int), .slice A rl c] (d.length + 1) (encP d ++ [.int .i64 (sg.slot : Int), .int .i64 (sg.first : Int), .slice A rl c])) (w0 := w4) 7 10 (SC w4 q (Value.slice AK d.length cK).ownBlock (d.length + 1) (encP d ++ [.int .i64 (sg.slot : Int), .int .i64 (sg.first : Int), .slice A rl c])) (fun a b => Keeps (fun x => (Value.slice AK d.length cK).ownBlock ≠ some x) a b) (fun a b => Keeps (fun x => x ≠ q) a b) GE (by kernel_rfl) (fun i w w' v h hv => VC_k (fun _ => True) i (fun _ _ _ _ => trivial) (fun _ _ _ => trivial) w w' v h hv) (fun b c w w' h hs => hs.keep h)
     (fun i hi w w' v h hv => VC_k _ i (fun _ B h1 _ => h1) (fun e => absurd e hi) w w' v h hv) (fun i _ w w' v h hv => VC_k _ i (fun _ B _ h2 => h2) (fun _ b hb => hb) w w' v h hv) (by kernel_rfl) (by kernel_rfl) (by decide) (by decide) GE_is (fun i o ho hw => (all_wanted (by kernel_rfl) ho hw).elim) (Keeps.refl _ w4).drew (each_of ?_) ?_
    ·refine ⟨?_, ?_, ?_, ?_, ?_, ?_, ?_, ?_, ?_, ?_, ?_, trivial⟩ <;> intro hw a2 w7 Z
     ·rw [if_neg (by decide), if_neg (by decide)]
      intro b c hs _ _
      exact kp_move rfl (Z.old 0 (by kernel_rfl))
     ·rw [if_neg (by decide), if_neg (by decide)]
      intro b c hs _ _
      exact kp_move rfl (Z.old 0 (by kernel_rfl))
     ·rw [if_neg (by decide), if_neg (by decide)]
      intro b c hs _ _
      exact kp_nilL rfl (Z.val 1 43 (by kernel_rfl) (by kernel_rfl))
     ·rw [if_neg (by decide), if_neg (by decide)]
      intro b c hs _ _
      exact kp_fL3 rfl (Z.val 2 44 (by kernel_rfl) (by kernel_rfl))
     ·rw [if_neg (by decide), if_neg (by decide)]
      intro b c hs _ hb
      obtain rfl := hb [] (by kernel_rfl)
      exact kp_lK (hs.kp0.cell HC3.out trivial) rfl (Z.val 3 45 (by kernel_rfl) (by kernel_rfl))
     ·rw [if_neg (by decide), if_neg (by decide)]
      intro b c hs _ hb
      obtain rfl := hb [6] (by kernel_rfl)
      exact kp_lG (hs.kp0.cell HX0.out trivial) (hs.kp0.cell HX1.out trivial) (hs.kp0.cell HX2.out trivial) rfl (Z.old 6 (by kernel_rfl))
     ·rw [if_neg (by decide), if_neg (by decide)]
      intro b c hs _ hb
      obtain rfl := hb [] (by kernel_rfl)
      refine Oper.wp_mono (fun a' w' hk' => ?_) (kp_oneS rfl rfl rfl rfl (Z.val 5 47 (by kernel_rfl) (by kernel_rfl)))
      obtain ⟨v, rfl, hk, rfl, rfl⟩ := hk'
      have h1 := hs.kp0.size
      exact ⟨_, rfl, hk, _, rfl, fun e => by have := (HOLT.out _ e).2; omega, by omega, heap_alloc_new w7 _⟩
     ·rw [if_pos rfl]
      intro hs
      have hs : Kp w4 w7 := hs
      have e4 : a2.eval (.tmp 46) = .slice AK d.length cK := Z.val 4 46 (by kernel_rfl) (by kernel_rfl)
      obtain ⟨B, e6, h1, h2, hbB⟩ := (show LitS (Value.slice AK d.length cK).ownBlock q [.int .i64 (sg.slot : Int), .int .i64 (sg.first : Int), .slice A rl c] w7 (a2.eval (.tmp 48)) from Z.val 6 48 (by kernel_rfl) (by kernel_rfl))
      refine seg_elem.wp_append (.tmp 46) (.tmp 48) 135 rfl e4 (hs.own HROW4.out fun _ _ => trivial) e6 (lits_src hbB rfl (by simp [Value.oneCell'])) (by unfold maxLen; omega) (by omega) (Nat.zero_le _) ?_
      intro v' w' ho hg hb
      have hgr : Keeps (fun x => (Value.slice AK d.length cK).ownBlock ≠ some x) w7 w' := Keeps.of_grown hg fun x hx _ hn => hn hx
      refine ⟨v', rfl, hgr, (hs.mono fun _ _ _ => trivial).trans hgr, ho, ?_, ?_⟩
      ·exact hb.imp id fun e => ⟨_, e, hs.size⟩
      ·intro e
       rcases hb with h | h
       ·rw [h] at e; have := HOLT.out q e; omega
       ·rw [h] at e; injection e with e; have := hs.size; omega
     ·rw [if_neg (by decide), if_neg (by decide)]
      intro b c hs _ _
      exact kp_nilL rfl (Z.val 0 42 (by kernel_rfl) (by kernel_rfl))
     ·rw [if_neg (by decide), if_neg (by decide)]
      intro b c hs _ _
      exact kp_fL3 rfl (Z.val 8 50 (by kernel_rfl) (by kernel_rfl))
     ·rw [if_neg (by decide), if_pos rfl]
      intro hs
      have hs : Keeps (fun x => (Value.slice AK d.length cK).ownBlock ≠ some x) w4 w7 := hs
      have hap : AppS w4.heap.size q (Value.slice AK d.length cK).ownBlock (d.length + 1) (encP d ++ [.int .i64 (sg.slot : Int), .int .i64 (sg.first : Int), .slice A rl c]) w7 (a2.eval (.tmp 49)) := Z.val 7 49 (by kernel_rfl) (by kernel_rfl)
      have hqO : (Value.slice AK d.length cK).ownBlock ≠ some q := fun e => by have := HOLT.out q e; omega
      have hb7 := HBLK4.out.keep hs hqO
      obtain ⟨A9, c9, e9⟩ := own_form hap.1
      refine Oper.wp_mono (fun a' w' hk' => ?_) (one_cell 135 rfl (by kernel_rfl) ⟨q, 3, none⟩ (a2.eval (.tmp 49)) _ (by rw [e9]; rfl) ((cell_of_block hb7 3).trans rfl) (unfrozen_of_block hb7 3) (Z.val 9 51 (by kernel_rfl) (by kernel_rfl)) rfl)
      obtain ⟨v, rfl, rfl⟩ := hk'
      exact ⟨v, rfl, (Keeps.refl _ w7).setCell (.inr fun hn => hn rfl) _, ⟨w7, _, hs, hap, Keeps.refl _ _⟩, trivial⟩
    ·intro vs4 wE hsE hlenE hvE
     match vs4, hlenE with
     | [y0, y1, y2, y3, y4, y5, y6, y7, y8, y9, y10], _ =>
      clear hvE
      simp only [putAll, List.map, Act.put, List.setIfInBounds_toArray, List.set_cons_succ, List.set_cons_zero, Exit.then]
      obtain ⟨W1, v, hkW, hap, hkE⟩ := hsE
      have hqO : (Value.slice AK d.length cK).ownBlock ≠ some q := fun e => by have := HOLT.out q e; omega
      have hcE : Coll w wE q v (d ++ [(sg, (A, c))]) := by
       have hxE : (SegP.E (sg, (A, c))) = .slice A rl c := by show Value.slice A sg.recs.length c = _; rw [HRL.out]
       have hx4 : w4.ownsRow wr.heap.size 3 1 (SegP.E (sg, (A, c))) sg.recs.length (endsC sg.recs) := by rw [hxE, HRL.out]; exact HO4.out
       have hp : Coll w W1 q v (d ++ [(sg, (A, c))]) := (hcol.out.keep (HK4.out.mono fun _ _ _ => trivial)).put (ownsRow_le hx4 (Nat.zero_le _)) (fun b e => ⟨by have := (hx4.lt b e).1; omega, fun e2 => by have h1 := (hx4.lt b e).1; have h2 := (HOLT.out b e2).2; omega⟩)
        (fun y hy b e e2 => by have h1 := ((hcol.out.own y hy).lt b e).2; have h2 := (hx4.lt b e2).1; omega) (by rw [enc_snoc, hxE]; exact hap.1) hkW hap.2.1 (by omega)
       exact (hp.keep ((Keeps.refl _ W1).setCell (.inr fun hn => by have hn : w.heap.size ≤ q := hn; omega) _)).keep (hkE.mono fun _ _ _ => trivial)
      obtain ⟨Av, cv, rfl⟩ := own_form hap.1
      have hbE : LBlk wE q p i n (.slice Av (d.length + 1) cv) cs 0 (.slice none 0 0) nx := LBlk.keep (G := fun _ => True) (show LBlk (W1.setCell ⟨q, 3, none⟩ (.slice Av (d.length + 1) cv)) q p i n (.slice Av (d.length + 1) cv) cs 0 (.slice none 0 0) nx from block_setCell (HBLK4.out.keep hkW hqO) (i := 3) (.slice Av (d.length + 1) cv)) hkE trivial
      have hkg : Keeps (fun b => b ≠ q) W1 (W1.setCell ⟨q, 3, none⟩ (.slice Av (d.length + 1) cv)) := (Keeps.refl _ W1).setCell (.inr fun hn => hn rfl) _
      have hall : Keeps (fun b => b ≠ q ∧ (Value.slice AK d.length cK).ownBlock ≠ some b) w4 wE := keeps_on (keeps_on (hkW.mono fun _ _ hb => hb.2) hkg fun _ _ hb => hb.1) hkE fun _ _ _ => trivial
      have hkwE : Keeps (fun b => b ≠ q) w wE := keeps_on (keeps_on hkw.out HK4.out fun _ _ _ => trivial) hall fun b hl hb => ⟨hb, fun e => by have := (HOLT.out b e).1; omega⟩
      have hbx := (hall.block w1.heap.size ⟨by omega, fun e => by have := (HOLT.out _ e).2; omega⟩ (by omega)).trans HB4.out
      have x0 := (cell_of_block hbx 0).trans rfl
      have x1 := (cell_of_block hbx 1).trans rfl
      have x2 := (cell_of_block hbx 2).trans rfl
      have HCE := Lib.hid hcE
      have HBE := Lib.hid hbE
      have HKWE := Lib.hid hkwE
      have hds' : (d ++ [(sg, (A, c))]).map Prod.fst = ks.reverse.take (j + 1) := by
       rw [List.map_append, hds.out, take_next ks.reverse j (by rw [List.length_reverse]; exact hjk), List.getElem_reverse]
       rw [HSG.out]
       rfl
      have HDS := Lib.hid hds'
      have HFS := Lib.hid (show ∀ t (ht : t < ks.length), t + (j + 1) < m → (ks[t]).end_ ≤ sg.first from fun t ht htj => by
       have hh := List.pairwise_iff_getElem.1 HRISE.out t (ks.length - 1 - j) ht (rev_lt hjk) (by rw [HM.out]; omega)
       rw [HSG.out] at hh
       exact hh)
      have hqE : q < wE.heap.size := (Array.getElem?_eq_some_iff.1 hbE).1
      have hw1E : w1.heap.size < wE.heap.size := (Array.getElem?_eq_some_iff.1 hbx).1
      clear hkW hap hkE hcE hbE hkg hall hkwE hbx hds' HROW4 HC3 HX0 HX1 HX2 HO4 HB4 HBLK4
      have qm : ((sg.slot : Int) + (n : Int) - 1).tmod (n : Int) = ((slotBack b0 n m (j + 1) : Nat) : Int) := by
       have h1 := HNX.out
       rw [HSLT.out] at h1
       rw [Int.tmod_eq_emod_of_nonneg (by omega), ← h1]
       have e : (sg.slot : Int) + (n : Int) - 1 = ((sg.slot + n - 1 : Nat) : Int) := by omega
       rw [e]; rfl
      have hsb1 : slotBack b0 n m (j + 1) < n := HSL.out (j + 1)
      obtain ⟨sb, hsb⟩ : ∃ sb, slotBack b0 n m (j + 1) = sb := ⟨_, rfl⟩
      have HSBX := Lib.hid hsb
      rw [hsb] at qm hsb1
      clear hsb
      by_cases hj0 : j = 0
      ·have t10 : ((j : Int) == 0) = true := by simp [hj0]
       have HJ0 := Lib.hid hj0
       clear hj0
       go_wp2_with fail
       refine (count_any _ (.int .i64 (sg.slot : Int)) (.int .i64 (sg.first : Int)) A rl c rfl rfl).mono ?_
       rintro e w5 ⟨rfl, hk5⟩
       have hb5 := HBE.out.keep hk5 trivial
       have hbh := behind_any w5 q p i n hb5.head sg.slot (by omega) (by omega) (by omega)
       have hrr : (sg.slot + 1) % n = (b0 + m) % n := by
        rw [← HBM.out, ← HSLT.out, HJ0.out]
       rw [hrr] at hbh
       obtain ⟨rr, hrr2⟩ : ∃ rr, (b0 + m) % n = rr := ⟨_, rfl⟩
       rw [hrr2] at hbh
       have HRR := Lib.hid hrr2
       have HBH := Lib.hid hbh
       have c4 := (cell_of_block hb5 4).trans rfl
       have f4 := unfrozen_of_block hb5 4
       have hb6 : LBlk (w5.setCell ⟨q, 4, none⟩ (.int .i64 (rr : Int))) q p i n (.slice Av (d.length + 1) cv) rr 0 (.slice none 0 0) nx := block_setCell hb5 (i := 4) (.int .i64 (rr : Int))
       have HB6 := Lib.hid hb6
       have HC6 := Lib.hid ((HCE.out.keep (hk5.mono fun _ _ _ => trivial)).keep ((Keeps.refl _ w5).setCell (p := ⟨q, 4, none⟩) (.inr fun hn => by have hn : w.heap.size ≤ q := hn; omega) (.int .i64 (rr : Int))))
       have HK6 := Lib.hid (show Keeps (fun b => b ≠ q) w (w5.setCell ⟨q, 4, none⟩ (.int .i64 (rr : Int))) from (keeps_on HKWE.out hk5 fun _ _ _ => trivial).setCell (.inr fun hn => hn rfl) _)
       clear hk5 hb5 hbh hrr hrr2 hb6
       go_wp2_with fail
       refine HBH.out.mono ?_
       rintro e w9 ⟨rfl, rfl⟩
       go_wp2_with fail
       generalize w5.setCell ⟨q, 4, none⟩ (.int .i64 (rr : Int)) = wX at HB6 HC6 HK6 ⊢
       have c2 := (cell_of_block HB6.out 2).trans rfl
       go_region
       go_wp2_with fail
       go_roundw
       case rel => exact ⟨j + 1, sg.first, rr, _, d ++ [(sg, (A, c))], by omega, by go_num, by rw [HSBX.out], rfl, by omega, HFS, HDS, Lib.hid (HB6.out.keep (Keeps.refl (fun _ => True) _).drew trivial), Lib.hid ⟨fun h => by omega, fun _ => HRR.out.symm⟩, Lib.hid (HC6.out.keep (Keeps.refl _ _).drew), Lib.hid (keeps_on HK6.out (Keeps.refl (fun _ => True) _).drew fun _ _ _ => trivial)⟩
       case measure => simp [intOf]; omega
      ·have t10 : ((j : Int) == 0) = false := by simp [hj0]
       have HJ0 := Lib.hid (show 0 < j by omega)
       have hcs2 := hcs.out.2 (by omega)
       have HCS2 := Lib.hid hcs2
       clear hj0 hcs2
       have c2 := (cell_of_block HBE.out 2).trans rfl
       go_wp2_with fail
       go_region
       go_wp2_with fail
       go_roundw
       case rel => exact ⟨j + 1, sg.first, cs, _, d ++ [(sg, (A, c))], by omega, by go_num, by rw [HSBX.out], rfl, by omega, HFS, HDS, Lib.hid (HBE.out.keep (Keeps.refl (fun _ => True) _).drew trivial), Lib.hid ⟨fun h => by omega, fun _ => HCS2.out⟩, Lib.hid (HCE.out.keep (Keeps.refl _ _).drew), Lib.hid (keeps_on HKWE.out (Keeps.refl (fun _ => True) _).drew fun _ _ _ => trivial)⟩
       case measure => simp [intOf]; omega
   ·obtain rfl : j = m := by omega
    have hdr : d.map Prod.fst = ks.reverse := by rw [hds.out, List.take_of_length_le (by rw [List.length_reverse, HM.out]; omega)]
    obtain ⟨g, c', hform, -, -⟩ := hcol.out.row.form (by omega)
    injection hform with e1 _ e3
    subst e1 e3
    have hcsv : cs = (b0 + j) % n := hcs.out.2 (by omega)
    have HREV := Lib.hid (rev_exit w wr q p i n g cK cs nx d ks (by omega) hqlt hcol.out hblk.out hkw.out hdr)
    have HCSV := Lib.hid hcsv
    clear hcsv
    have hno := HNO.out wr hkw.out hblk.out.head hjn
    have HNOC := Lib.hid hno
    have hdl200 : d.length ≤ 200 := by omega
    clear hdr hno hds hcs hcol hkw hdl
    generalize slotBack b0 n j j = sb at HNOC ⊢
    go_wp2_with fail
    refine HNOC.out.mono ?_
    rintro e w1 ⟨rfl, hk1⟩
    have hb1 := hblk.out.keep hk1 trivial
    have c3 := (cell_of_block hb1 3).trans rfl
    have hq1 : q < w1.heap.size := (Array.getElem?_eq_some_iff.1 hb1).1
    have HK1' := Lib.hid (hk1.alloc (.cells #[.int .i64 0, .int .i64 0, .slice none 0 0] 179))
    clear hk1 hb1
    go_wp2_with fail
    with_reducible refine (HREV.out _ HK1'.out).mono ?_
    rintro e w2 ⟨rfl, hpost⟩
    have HP := Lib.hid hpost
    clear hpost
    go_wp2_with fail
    go_end0
    exact ⟨⟨_, rfl⟩, by have h := HP.out; rw [HCSV.out] at h; exact h⟩
  ·obtain rfl : j = m := by omega
   have tjn : decide ((j : Int) < (n : Int)) = false := by simp; omega
   have hdr : d.map Prod.fst = ks.reverse := by rw [hds.out, List.take_of_length_le (by rw [List.length_reverse, HM.out]; omega)]
   obtain ⟨g, c', hform, -, -⟩ := hcol.out.row.form (by omega)
   injection hform with e1 _ e3
   subst e1 e3
   have hcsv : cs = (b0 + j) % n := hcs.out.2 (by omega)
   have HREV := Lib.hid (rev_exit w wr q p i n g cK cs nx d ks (by omega) hqlt hcol.out hblk.out hkw.out hdr)
   have HCSV := Lib.hid hcsv
   clear hcsv
   have c3 := (cell_of_block hblk.out 3).trans rfl
   clear hdr hds hcs hcol hkw hdl
   go_wp2_with fail
   with_reducible refine (HREV.out wr (Keeps.refl _ _)).mono ?_
   rintro e w2 ⟨rfl, hpost⟩
   have HP := Lib.hid hpost
   clear hpost
   go_wp2_with fail
   go_end0
   exact ⟨⟨_, rfl⟩, by have h := HP.out; rw [HCSV.out] at h; exact h⟩
theorem keeps_over {G : Nat → Prop} {w W w' : World} (h : Kp w W) (hk : Keeps G W w') (hG : ∀ b, b < w.heap.size → G b) : Kp w w' :=
 ⟨hk.os.trans h.os, hk.tape.trans h.tape, hk.output.trans h.output, Nat.le_trans h.size hk.size, fun b _ hb => (hk.block b (hG b hb) (Nat.lt_of_lt_of_le hb h.size)).trans (h.block b trivial hb)⟩
theorem Coll.mid {w0 w : World} {q p i n sl nx : Nat} {K : Value} {d : List SegP} (h : Coll w0 w q K d) (hq : q < w0.heap.size) (hb : LBlk w q p i n K sl 0 (.slice none 0 0) nx) : LogMid w q p i n (d.map Prod.fst) sl 0 nx K (.slice none 0 0) (d.map SegP.E) := by
 refine ⟨hb, by rw [List.length_map, segC_encP]; exact h.row, ⟨by simp, fun j hj => ?_, fun E hE b e hx => ?_, h.two⟩, fun b e e2 => by have := h.kb b e; omega⟩
 ·simp only [List.getElem_map]
  exact h.own _ (List.getElem_mem _)
 ·obtain ⟨x, hx', rfl⟩ := List.mem_map.1 hE
  have h1 := h.eb x hx' b e
  rcases hx with hx | hx
  ·omega
  ·exact h1.2 hx
theorem Coll.at_ {w0 w : World} {q p i n sl nx : Nat} {K : Value} {d : List SegP} (h : Coll w0 w q K d) (hq : q < w0.heap.size) (hb : LBlk w q p i n K sl 0 (.slice none 0 0) nx) : LogAt w q ⟨hasB q K (d.map SegP.E), fun _ => False⟩ p i n (d.map Prod.fst) sl 0 nx [] K (.slice none 0 0) (d.map SegP.E) :=
 (h.mid hq hb).at_ (fun _ => False) (fun _ h => h.elim) (fun _ _ h => h) ⟨none, 0, rfl, Nat.le_refl _, Nat.zero_le _, Row.nil _ _ _⟩
theorem Coll.new {w0 w : World} {q : Nat} {K : Value} {d : List SegP} (h : Coll w0 w q K d) : ∀ b, hasB q K (d.map SegP.E) b → b = q ∨ w0.heap.size ≤ b := fun b hb => by
 rcases hb with rfl | hb | ⟨E, hE, hb⟩
 ·exact .inl rfl
 ·exact .inr (h.kb b hb)
 ·obtain ⟨x, hx, rfl⟩ := List.mem_map.1 hE
  exact .inr (h.eb x hx b hb).1
def OpenPost (w : World) (p i n : Nat) (ks : List Seg) (sl nx : Nat) (w' : World) : Prop :=
 ∃ (Fs : Foot) (K : Value) (Es : List Value), LogAt w' w.heap.size Fs p i n ks sl 0 nx [] K (.slice none 0 0) Es ∧ (∀ b, Fs.all b → w.heap.size ≤ b) ∧ Kp w w'
set_option maxRecDepth 100000 in
set_option maxHeartbeats 1000000 in
theorem lopen_any (w : World) (hT : Taken w) (p : Nat) (F : Foot) (s : SDev) (hd : DAt w p F s) (i n : Nat) (h3 : 3 ≤ n) (hn : n ≤ 200) (hi : i ≤ 2048) (hin : i + 8 * n ≤ s.now.length) (ks : List Seg) (sl nx : Nat)
  (hfind : ∀ W, Kp (w.alloc (.cells #[.pointer (some ⟨p, 0, none⟩), .int .i64 (i : Int), .int .i64 (n : Int), .slice none 0 0, .int .i64 0, .int .i64 0, .slice none 0 0, .int .i64 1] 137)) W → Calls Tryz.prog 128 #[.pointer (some ⟨w.heap.size, 0, none⟩)] W fun e w' => (∃ v, e = .returned v) ∧ OpenPost w p i n ks sl nx w') :
  Calls Tryz.prog 96 #[.pointer (some ⟨p, 0, none⟩), .int .i64 (i : Int), .int .i64 (n : Int)] w fun e w' => e = .returned (.tuple #[.pointer (some ⟨w.heap.size, 0, none⟩), .int .i64 0]) ∧ OpenPost w p i n ks sl nx w' := by
 have HTH := Lib.hid (sthere_yes w p F s hd i n h3 hn hin)
 have HFIND := Lib.hid (hfind _ (Keeps.refl _ _))
 clear hT hd hfind
 go_enter Tryz.func96, Tryz.ntmps96
 go_wp2_with fail
 refine HTH.out.mono ?_
 rintro e w' ⟨rfl, rfl⟩
 go_wp2_with fail
 refine HFIND.out.mono ?_
 rintro e w1 ⟨⟨v, rfl⟩, hp⟩
 have HP := Lib.hid hp
 clear hp HFIND
 go_wp2_with fail
 go_ret2
 exact ⟨rfl, HP.out⟩
theorem find_new (w : World) (hT : Taken w) (p : Nat) (F : Foot) (s : SDev) (hd : DAt w p F s) (i n : Nat) (hn : n ≤ 200) (hi : i ≤ 2048) (hin : i + 8 * n ≤ s.now.length) (hon : OnDisk s.now i n []) :
  ∀ W, Kp (w.alloc (.cells #[.pointer (some ⟨p, 0, none⟩), .int .i64 (i : Int), .int .i64 (n : Int), .slice none 0 0, .int .i64 0, .int .i64 0, .slice none 0 0, .int .i64 1] 137)) W → Calls Tryz.prog 128 #[.pointer (some ⟨w.heap.size, 0, none⟩)] W fun e w' => (∃ v, e = .returned v) ∧ OpenPost w p i n [] 0 1 w' := by
 intro W hW
 have hb0 := heap_alloc_new w (.cells #[.pointer (some ⟨p, 0, none⟩), .int .i64 (i : Int), .int .i64 (n : Int), .slice none 0 0, .int .i64 0, .int .i64 0, .slice none 0 0, .int .i64 1] 137)
 have hk0 : Kp w W := ((Keeps.refl _ w).alloc _).trans hW
 have hbW : LBlk W w.heap.size p i n (.slice none 0 0) 0 0 (.slice none 0 0) 1 := (hW.block w.heap.size trivial (by simp)).trans hb0
 have he := find_empty hon
 refine find_any W (hT.keep hk0) w.heap.size p i n _ _ 0 0 1 hbW F s (hd.keep (hk0.mono fun _ _ _ => trivial)) hi hn hin (fun j k m x _ _ e => by have := (decL_wf e).2.1; omega) (OpenPost w p i n [] 0 1) _ rfl (.inl he) (fun _ W1 hk1 => ?_) (fun h => by rw [he.1] at h; omega)
 have hb1 := hbW.keep hk1 trivial
 have hqz : w.heap.size < W1.heap.size := (Array.getElem?_eq_some_iff.1 hb1).1
 have hc : Coll W1 W1 w.heap.size (.slice none 0 0) [] := Coll.nil _ _ _
 exact ⟨_, _, _, hc.at_ hqz hb1, fun b hb => by
  rcases hb with hb | hb
  ·rcases hc.new b hb with rfl | h <;> omega
  ·exact hb.elim, hk0.trans hk1⟩
theorem find_old (w : World) (hT : Taken w) (p : Nat) (F : Foot) (s : SDev) (hd : DAt w p F s) (i n : Nat) (hn : n ≤ 200) (hi : i ≤ 2048) (hin : i + 8 * n ≤ s.now.length) (ks : List Seg) (l : Seg) (b0 : Nat) (hch : Chain n b0 (ks ++ [l])) (hon : OnDisk s.now i n (ks ++ [l])) (hf : ∀ sg ∈ ks ++ [l], sg.first ≤ 274877906943) :
  ∀ W, Kp (w.alloc (.cells #[.pointer (some ⟨p, 0, none⟩), .int .i64 (i : Int), .int .i64 (n : Int), .slice none 0 0, .int .i64 0, .int .i64 0, .slice none 0 0, .int .i64 1] 137)) W → Calls Tryz.prog 128 #[.pointer (some ⟨w.heap.size, 0, none⟩)] W fun e w' => (∃ v, e = .returned v) ∧ OpenPost w p i n (ks ++ [l]) ((b0 + (ks ++ [l]).length) % n) (l.first + 212) w' := by
 intro W hW
 have hb0 := heap_alloc_new w (.cells #[.pointer (some ⟨p, 0, none⟩), .int .i64 (i : Int), .int .i64 (n : Int), .slice none 0 0, .int .i64 0, .int .i64 0, .slice none 0 0, .int .i64 1] 137)
 have hk0 : Kp w W := ((Keeps.refl _ w).alloc _).trans hW
 have hbW : LBlk W w.heap.size p i n (.slice none 0 0) 0 0 (.slice none 0 0) 1 := (hW.block w.heap.size trivial (by simp)).trans hb0
 obtain ⟨e1, e2, e3, e4⟩ := find_last hch hon
 have hnq : ¬ F.all w.heap.size := fun h => by have := hd.lt _ h; omega
 have htq : 0 < w.heap.size := World.block_lt_of_cell? w _ (hT 0 (by decide))
 refine find_any W (hT.keep hk0) w.heap.size p i n _ _ 0 0 1 hbW F s (hd.keep (hk0.mono fun _ _ _ => trivial)) hi hn hin (fun j k m x _ _ e => by have := (decL_wf e).2.1; omega) (OpenPost w p i n (ks ++ [l]) ((b0 + (ks ++ [l]).length) % n) (l.first + 212)) _ rfl (.inr ⟨e3, by omega⟩) (fun h => by omega) (fun _ W1 hk1 hb1 => ?_)
 rw [e1, e4]
 have hkS : Keeps (fun b => b ≠ w.heap.size) W1 (W1.setCell ⟨w.heap.size, 7, none⟩ (.int .i64 ((l.first : Int) + 212))) := (Keeps.refl _ W1).setCell (.inr fun hn => hn rfl) _
 have hbS : LBlk (W1.setCell ⟨w.heap.size, 7, none⟩ (.int .i64 ((l.first : Int) + 212))) w.heap.size p i n (.slice none 0 0) 0 0 (.slice none 0 0) (l.first + 212) := by
  have := block_setCell hb1 (i := 7) (.int .i64 ((l.first + 212 : Nat) : Int))
  exact this
 have hqS : w.heap.size < (W1.setCell ⟨w.heap.size, 7, none⟩ (.int .i64 ((l.first : Int) + 212))).heap.size := (Array.getElem?_eq_some_iff.1 hbS).1
 have hk01 : Kp w W1 := hk0.trans hk1
 have hkw : Kp w (W1.setCell ⟨w.heap.size, 7, none⟩ (.int .i64 ((l.first : Int) + 212))) := keeps_over hk01 hkS fun b hb => by show b ≠ w.heap.size; omega
 have hsl : l.slot = slotBack b0 n (ks ++ [l]).length 0 := by
  rw [slotBack_at hch 0 (by simp)]
  have : (ks ++ [l])[(ks ++ [l]).length - 1 - 0]'(rev_lt (by simp)) = l := by simp
  rw [this]
 have hends : ∀ sg ∈ ks ++ [l], sg.end_ ≤ l.first + 212 := fun sg hsg => by
  rcases List.mem_append.1 hsg with h | h
  ·have := (List.pairwise_append.1 hch.rise).2.2 sg h l (by simp); omega
  ·rw [List.mem_singleton.1 h]
   have := (hch.ok l (by simp)).count
   unfold Seg.end_; omega
 refine (collect_any _ (hT.keep hkw) w.heap.size p i n (l.first + 212) 0 hbS F s (hd.keep (hkw.mono fun _ _ _ => trivial)) hnq (by omega) (ks ++ [l]) b0 hch _ rfl (by simp) hon hi hn hin hf hends (by have := hf l (by simp); omega) l.slot hsl).mono ?_
 rintro e w' ⟨hv, K, d, hds, hb, hc, hk⟩
 refine ⟨hv, ?_⟩
 have hat := hc.at_ hqS hb
 rw [hds] at hat
 exact ⟨_, _, _, hat, fun b hb => by
  rcases hb with hb | hb
  ·rcases hc.new b hb with rfl | h <;> omega
  ·exact hb.elim, keeps_over hkw hk fun b hb => by show b ≠ w.heap.size; omega⟩
end Go.Proofs.YticophaepapjoaaGreatDoor
namespace Go.Proofs.YticophaepapjoaaGreatDoor
open Go Go.RowKit
theorem write_now (s : SDev) (j : Nat) (l : List UInt8) (hj : j < s.now.length) (hl : l.length = 64) (hr : ∀ r ∈ s.now, r.length = 64) (k : Nat) : (s.write j l).now.getD k [] = if k = j then l else s.now.getD k [] := by
 have ho : over l (s.now.getD j []) = l := by
  unfold over
  have h1 : (s.now.getD j []).length = 64 := by rw [getD_mem _ _ _ hj]; exact hr _ (List.getElem_mem _)
  rw [List.drop_eq_nil_of_le (by omega), List.append_nil]
 show (s.now.set j (over l (s.now.getD j []))).getD k [] = _
 rw [ho, List.getD_eq_getElem?_getD, List.getD_eq_getElem?_getD]
 by_cases h : k = j
 ·subst h
  rw [if_pos rfl, List.getElem?_set_self hj]; rfl
 ·rw [if_neg h, List.getElem?_set_ne (Ne.symm h)]
theorem write_rows (s : SDev) (j : Nat) (l : List UInt8) (hl : l.length = 64) (hr : ∀ r ∈ s.now, r.length = 64) : ∀ r ∈ (s.write j l).now, r.length = 64 := by
 intro r h
 have h : r ∈ s.now.set j (over l (s.now.getD j [])) := h
 rcases List.mem_or_eq_of_mem_set h with h | h
 ·exact hr r h
 ·rw [h]
  unfold over
  rw [List.length_append, List.length_drop]
  by_cases hj : j < s.now.length
  ·have h1 : (s.now.getD j []).length = 64 := by rw [getD_mem _ _ _ hj]; exact hr _ (List.getElem_mem _)
   omega
  ·rw [List.getD_eq_getElem?_getD, List.getElem?_eq_none (by omega)]
   simp [hl]
theorem puts_rows (s : SDev) (a nu : Nat) (x : List UInt8) (m : Nat) (hr : ∀ r ∈ s.now, r.length = 64) (hnu : nu + m ≤ 2199023255552) : ∀ r ∈ (s.puts a nu x m).now, r.length = 64 := by
 induction m with
 | zero => exact hr
 | succ m ih =>
  have hp : (piece x m).length ≤ 53 := by rw [piece_len]; unfold chLen; omega
  exact write_rows _ _ _ (encL_len _ _ (by omega) hp) (ih (by omega))
theorem puts_len (s : SDev) (a nu : Nat) (x : List UInt8) (m : Nat) : (s.puts a nu x m).now.length = s.now.length ∧ (s.puts a nu x m).calls = s.calls + m := by
 rw [← putsL_range]
 have := putsL_len s a nu x (List.range m)
 rw [List.length_range] at this
 exact this
theorem puts_now (s : SDev) (a nu : Nat) (x : List UInt8) (m : Nat) (hr : ∀ r ∈ s.now, r.length = 64) (hnu : nu + m ≤ 2199023255552) (ha : a + m ≤ s.now.length) (k : Nat) : (s.puts a nu x m).now.getD k [] = if a ≤ k ∧ k < a + m then encL (nu + (k - a)) (piece x (k - a)) else s.now.getD k [] := by
 induction m with
 | zero => rw [if_neg (by omega)]; rfl
 | succ m ih =>
  have hp : (piece x m).length ≤ 53 := by rw [piece_len]; unfold chLen; omega
  have hw := write_now (s.puts a nu x m) (a + m) (encL (nu + m) (piece x m)) (by rw [(puts_len s a nu x m).1]; omega) (encL_len _ _ (by omega) hp) (puts_rows s a nu x m hr (by omega)) k
  show ((s.puts a nu x m).write (a + m) (encL (nu + m) (piece x m))).now.getD k [] = _
  rw [hw, ih (by omega) (by omega)]
  by_cases h : k = a + m
  ·subst h
   rw [if_pos rfl, if_pos (by omega), Nat.add_sub_cancel_left]
  ·rw [if_neg h]
   by_cases h2 : a ≤ k ∧ k < a + m
   ·rw [if_pos h2, if_pos (by omega)]
   ·rw [if_neg h2, if_neg (by omega)]
theorem puts_sec (s : SDev) (p sl kk f : Nat) (x : List UInt8) (m : Nat) (hr : ∀ r ∈ s.now, r.length = 64) (hk : kk + m ≤ 8) (hf1 : 1 ≤ f) (hf : f ≤ 274877906943) (ha : p + sl * 8 + 8 ≤ s.now.length) (a b : Nat) (hb : b < 8) :
  secAt (s.puts (p + sl * 8 + kk) (f * 8 + kk) x m).now p a b = if a = sl ∧ kk ≤ b ∧ b < kk + m then some (f * 8 + b, piece x (b - kk)) else secAt s.now p a b := by
 unfold secAt
 rw [puts_now s _ _ x m hr (by omega) (by omega)]
 by_cases h : a = sl ∧ kk ≤ b ∧ b < kk + m
 ·obtain ⟨rfl, h1, h2⟩ := h
  rw [if_pos (by omega), if_pos ⟨rfl, h1, h2⟩]
  have e : p + a * 8 + b - (p + a * 8 + kk) = b - kk := by omega
  rw [e, show f * 8 + kk + (b - kk) = f * 8 + b by omega]
  exact decL_enc _ _ _ (by omega) (by omega) (by omega) (by rw [piece_len]; unfold chLen; omega)
 ·rw [if_neg (by omega), if_neg h]
theorem piece_chunk (x : List UInt8) (j : Nat) : piece x j = chunk x j := rfl
theorem SegOn.more {s : SDev} {p : Nat} {sg : Seg} (h : SegOn s.now p sg) (hok : sg.Ok) (r : LRec) (hlen : sg.text.length + (putT r.body).length ≤ 424) (hr : ∀ r ∈ s.now, r.length = 64) (hf : sg.first ≤ 274877906943) (ha : p + sg.slot * 8 + 8 ≤ s.now.length) (tl : List UInt8) (htl : tl = sg.text.drop (sg.text.length / 53 * 53)) :
  SegOn (s.puts (p + sg.slot * 8 + sg.text.length / 53) (sg.first * 8 + sg.text.length / 53) (tl ++ putT r.body) (chunks (tl ++ putT r.body).length)).now p ⟨sg.slot, sg.first, sg.recs ++ [r]⟩ := by
 have hpos := putT_pos r.body
 have htx : (⟨sg.slot, sg.first, sg.recs ++ [r]⟩ : Seg).text = sg.text ++ putT r.body := strm_snoc _ _
 have htll : tl.length = sg.text.length % 53 := by rw [htl, List.length_drop]; omega
 have hxl : (tl ++ putT r.body).length = sg.text.length % 53 + (putT r.body).length := by rw [List.length_append, htll]
 have hns : nsec (sg.text ++ putT r.body).length = sg.text.length / 53 + chunks (tl ++ putT r.body).length := by
  rw [hxl, List.length_append]; unfold nsec chunks; omega
 have hk8 : sg.text.length / 53 + chunks (tl ++ putT r.body).length ≤ 8 := by
  rw [hxl]; unfold chunks; omega
 have hsec := fun b hb => puts_sec s p sg.slot (sg.text.length / 53) sg.first (tl ++ putT r.body) (chunks (tl ++ putT r.body).length) hr hk8 hok.first hf ha sg.slot b hb
 refine ⟨fun k hk => ?_, fun k hk1 hk2 n x he => ?_⟩
 ·rw [htx] at hk ⊢
  rw [hns] at hk
  show secAt _ p sg.slot k = _
  rw [hsec k (by omega)]
  by_cases h1 : sg.text.length / 53 ≤ k
  ·rw [if_pos ⟨rfl, h1, hk⟩]
   obtain ⟨j, rfl⟩ : ∃ j, k = sg.text.length / 53 + j := ⟨k - sg.text.length / 53, by omega⟩
   rw [Nat.add_sub_cancel_left, piece_chunk, chunk_tail, htl, Nat.mul_comm (sg.text.length / 53) 53]
  ·rw [if_neg (by omega), h.has k (by unfold nsec; omega), chunk_append _ _ _ (by omega)]
 ·rw [htx] at hk1
  rw [hns] at hk1
  have he : secAt _ p sg.slot k = some (n, x) := he
  rw [hsec k hk2, if_neg (by omega)] at he
  exact h.rest k (by unfold nsec; unfold chunks at hk1; rw [hxl] at hk1; omega) hk2 n x he
theorem costs_flat (ks : List Seg) : costs (ks.flatMap Seg.recs) = (ks.map fun s => costs s.recs).sum := by
 induction ks with
 | nil => rfl
 | cons s ks ih => rw [List.flatMap_cons, costs_append, ih]; rfl
theorem pairs_sum : ∀ (c : List Nat), (∀ i (h : i + 1 < c.length), 461 ≤ c[i] + c[i + 1]) → ∀ a l, c = a :: l → 461 * l.length + a ≤ 2 * c.sum
 | [a], _, a', l, e => by
  injection e with e1 e2; subst e1 e2; simp; omega
 | a :: b :: c, h, a', l, e => by
  injection e with e1 e2; subst e1 e2
  have h1 := pairs_sum (b :: c) (fun i hi => by have := h (i + 1) (by simp at hi ⊢; omega); simpa using this) b c rfl
  have h2 := h 0 (by simp)
  simp only [List.getElem_cons_zero, List.getElem_cons_succ, List.length_cons, List.sum_cons] at h1 h2 ⊢
  omega
theorem costs_drop (l : List LRec) (i j : Nat) (h : i ≤ j) : costs (l.drop j) ≤ costs (l.drop i) := by
 have e : l.drop j = (l.drop i).drop (j - i) := by rw [List.drop_drop]; congr 1; omega
 rw [e]
 have h2 := costs_append ((l.drop i).take (j - i)) ((l.drop i).drop (j - i))
 rw [List.take_append_drop] at h2
 omega
structure LogInv (st : LSt) (ks : List Seg) (b0 : Nat) (rows : List (List UInt8)) : Prop where
 ch : Chain st.segs b0 ks
 on : OnDisk rows st.place st.segs ks
 hist : st.hist.drop st.gone = ks.flatMap Seg.recs
 keep : ks.length < st.segs → st.gone = 0
 ends : ∀ sg ∈ ks, sg.end_ ≤ st.next
 nxs : st.next ≤ 274877906943
 segs : 3 ≤ st.segs ∧ st.segs ≤ 200
 one : ∀ r ∈ st.hist, 1 ≤ r.pos ∧ 1 ≤ r.body.length ∧ r.body.length ≤ 300
 rise : st.hist.Pairwise (·.pos < ·.pos)
 gone : st.gone ≤ st.hist.length
 next : 1 ≤ st.next ∧ ∀ r ∈ st.hist, r.pos < st.next
def firstOf (next : Nat) : List Seg → Nat
 | [] => next
 | s :: _ => s.first
def Tip (ks : List Seg) (next left : Nat) (tl : List UInt8) : Prop :=
 (left = 0 ∧ tl = [] ∧ ∀ ks0 sg, ks = ks0 ++ [sg] → 461 ≤ costs sg.recs) ∨ (∃ ks0 sg, ks = ks0 ++ [sg] ∧ left = 424 - sg.text.length ∧ tl = sg.text.drop (sg.text.length / 53 * 53) ∧ next = sg.end_)
section
variable {st : LSt} {ks : List Seg} {b0 : Nat} {rows : List (List UInt8)}
theorem LogInv.kept (h : LogInv st ks b0 rows) (i : Nat) (hi : i ≤ st.hist.length) (hc : costs (st.hist.drop i) ≤ 200 * (st.segs - 2)) : st.gone ≤ i := by
 refine Classical.byContradiction fun hn => ?_
 have h1 := costs_drop st.hist i st.gone (by omega)
 rw [h.hist, costs_flat] at h1
 have hl : ks.length = st.segs := by
  have := h.ch.len
  refine Classical.byContradiction fun hne => ?_
  have := h.keep (by omega)
  omega
 have hs := h.segs
 cases ks with
 | nil => simp at hl; omega
 | cons s ks =>
  have h2 := pairs_sum ((s :: ks).map fun s => costs s.recs) (fun j hj => by
   have hh := h.ch.cost j (by rw [List.length_map] at hj; exact hj)
   rw [List.getElem_map, List.getElem_map]
   exact hh) _ _ rfl
  rw [List.length_map] at h2
  simp only [List.length_cons] at hl
  omega
theorem LogInv.pos (h : LogInv st ks b0 rows) : ∀ r ∈ st.hist.drop st.gone, firstOf st.next ks ≤ r.pos := by
 intro r hr
 rw [h.hist] at hr
 obtain ⟨sg, hsg, hr⟩ := List.mem_flatMap.1 hr
 obtain ⟨j, hj, rfl⟩ := List.getElem_of_mem hr
 have h1 := (h.ch.ok sg hsg).pos j hj
 cases ks with
 | nil => cases hsg
 | cons s ks =>
  show s.first ≤ _
  rcases List.mem_cons.1 hsg with rfl | hsg
  ·omega
  ·have := (List.pairwise_cons.1 h.ch.rise).1 sg hsg
   unfold Seg.end_ at this
   omega
theorem LogInv.ok (h : LogInv st ks b0 rows) (hf : st.first = firstOf st.next ks) : st.Ok :=
 ⟨h.segs, h.one, h.rise, h.gone, h.kept, h.next, by rw [hf]; exact h.pos, by have := h.nxs; omega⟩
theorem LogInv.good (h : LogInv st ks b0 rows) : ∀ sg ∈ ks, Good rows st.place st.segs sg := fun sg hs =>
 ⟨h.ch.ok sg hs, h.on.on sg hs, h.ch.slot_lt sg hs, h.ch.full sg hs, by have h1 := h.ends sg hs; have h2 := h.nxs; unfold Seg.end_ at h1; omega⟩
theorem LogInv.other {rows' : List (List UInt8)} (h : LogInv st ks b0 rows) (hs : ∀ i, st.has i → rows'.getD i [] = rows.getD i []) : LogInv st ks b0 rows' :=
 { h with on := h.on.same (fun j hj => hs j hj) h.ch.slot_lt fun sg hsg => (h.ch.ok sg hsg).len }
theorem Chain.slot_next {n : Nat} (h : Chain n b0 ks) (hl : ks.length < n) : ∀ k (hk : k < ks.length), (ks[k]).slot ≠ (b0 + ks.length) % n := fun k hk e => by
 rw [h.slot k hk] at e
 have h1 := h.base
 have e1 : (b0 + k) % n = if b0 + k < n then b0 + k else b0 + k - n := by
  split
  ·exact Nat.mod_eq_of_lt (by assumption)
  ·rw [Nat.mod_eq_sub_mod (by omega), Nat.mod_eq_of_lt (by omega)]
 have e2 : (b0 + ks.length) % n = if b0 + ks.length < n then b0 + ks.length else b0 + ks.length - n := by
  split
  ·exact Nat.mod_eq_of_lt (by assumption)
  ·rw [Nat.mod_eq_sub_mod (by omega), Nat.mod_eq_of_lt (by omega)]
 rw [e1, e2] at e
 split at e <;> split at e <;> omega
theorem Chain.turn {n : Nat} (h : Chain n b0 ks) (hn : 1 ≤ n) : Turn (decide (ks.length = n)) ks ((b0 + ks.length) % n) := by
 by_cases hl : ks.length = n
 ·rw [decide_eq_true hl]
  have hb : (b0 + ks.length) % n = b0 := by rw [hl, Nat.add_mod_right]; exact Nat.mod_eq_of_lt h.base
  show 0 < ks.length ∧ _
  refine ⟨by omega, fun h0 => ?_, fun k hk h0 e => ?_⟩
  ·rw [hb, h.slot 0 h0]; exact Nat.mod_eq_of_lt h.base
  ·have e0 : (ks[0]'(by omega)).slot = b0 := by rw [h.slot 0]; exact Nat.mod_eq_of_lt h.base
   have := h.slot_inj hk (by omega) (e.trans (hb.trans e0.symm))
   omega
 ·rw [decide_eq_false hl]
  exact h.slot_next (by have := h.len; omega)
end
end Go.Proofs.YticophaepapjoaaGreatDoor
