/-
  THE PROGRAM's LOG: collect.
-/
import Derived.Test.YtgdbkmecfbkobaaDoorSlgCollOps
namespace Go.Proofs.YtgdbkmecfbkobaaDoor
open Go Go.RowKit Go.Joins Go.Shelf

theorem mod_back (x n : Nat) (hx : 1 ≤ x) (hn : 1 ≤ n) : (x % n + n - 1) % n = (x - 1) % n := by
  have e1 : x % n + n - 1 = x % n + (n - 1) := by omega
  have e2 : x + (n - 1) = (x - 1) + n := by omega
  rw [e1, Nat.mod_add_mod, e2, Nat.add_mod_right]
theorem rev_lt {n j : Nat} (h : j < n) : n - 1 - j < n := by omega
/-- The slot that is looked at in round j. -/
def slotBack (b0 n m j : Nat) : Nat := (b0 + n + m - 1 - j) % n
theorem slotBack_at {n b0 : Nat} {ks : List Seg} (h : Chain n b0 ks) (j : Nat) (hj : j < ks.length) : slotBack b0 n ks.length j = (ks[ks.length - 1 - j]'(rev_lt hj)).slot := by
  rw [h.slot]
  unfold slotBack
  rw [show b0 + n + ks.length - 1 - j = b0 + (ks.length - 1 - j) + n by omega, Nat.add_mod_right]
theorem slotBack_next {n b0 m j : Nat} (hn : 1 ≤ n) (_hm : 1 ≤ m) (hj : j < m) : (slotBack b0 n m j + n - 1) % n = slotBack b0 n m (j + 1) := by
  unfold slotBack
  rw [mod_back _ _ (by omega) hn, show b0 + n + m - 1 - j - 1 = b0 + n + m - 1 - (j + 1) by omega]
theorem Coll.rev {w0 w w' : World} {q g c : Nat} {d : List SegP} (h : Coll w0 w q (.slice (some ⟨g, 0, none⟩) d.length c) d) (hr : w'.ownsRow 0 67 3 (.slice (some ⟨g, 0, none⟩) d.length c) d.length (encP d.reverse)) (hg : w.grownBy w' (some g)) : Coll w0 w' q (.slice (some ⟨g, 0, none⟩) d.length c) d.reverse := by
  have hk : Keeps (fun b => b ≠ g) w w' := Keeps.of_grown hg fun b hb _ hn => hn (by injection hb with hb; exact hb.symm)
  refine ⟨by rw [List.length_reverse]; exact hr, h.kb, fun x hx => hk.own (h.own x (List.mem_reverse.1 hx)) fun b e e2 => (h.eb x (List.mem_reverse.1 hx) b e).2 (by rw [e2]; rfl), fun x hx => h.eb x (List.mem_reverse.1 hx), ?_⟩
  rw [List.map_reverse]
  exact List.pairwise_reverse.2 (h.two.imp fun h => h.symm)

theorem rev_exit (w wr : World) (q p i n g c cs nx : Nat) (d : List SegP) (ks : List Seg) (hdl : d.length ≤ 200) (hq : q < w.heap.size) (hcol : Coll w wr q (.slice (some ⟨g, 0, none⟩) d.length c) d) (hblk : LBlk wr q p i n (.slice (some ⟨g, 0, none⟩) d.length c) cs 0 (.slice none 0 0) nx) (hkw : Keeps (fun b => b ≠ q) w wr) (hdr : d.map Prod.fst = ks.reverse) :
    ∀ W, Kp wr W → Calls Tryd.prog 57 #[.slice (some ⟨g, 0, none⟩) d.length c] W fun e w' => e = .returned (.tuple #[]) ∧
      ∃ (K : Value) (d' : List SegP), d'.map Prod.fst = ks ∧ LBlk w' q p i n K cs 0 (.slice none 0 0) nx ∧ Coll w w' q K d' ∧ Keeps (fun b => b ≠ q) w w' := by
  intro W hW
  have hc := hcol.keep (hW.mono fun _ _ _ => trivial)
  refine (reverse_any W g c d.length d rfl hc.row (by omega)).mono ?_
  rintro e w' ⟨rfl, ho, hg⟩
  have hgw : w.heap.size ≤ g := hcol.kb g rfl
  have hk : Keeps (fun b => b ≠ g) W w' := Keeps.of_grown hg fun b hb _ hn => hn (by injection hb with hb; exact hb.symm)
  refine ⟨rfl, _, d.reverse, by rw [List.map_reverse, hdr, List.reverse_reverse], (hblk.keep hW trivial).keep hk (by show q ≠ g; omega), hc.rev ho hg, keeps_on (keeps_on hkw hW fun _ _ _ => trivial) hk fun b hl _ => by show b ≠ g; omega⟩
theorem Coll.nil (w w' : World) (q : Nat) : Coll w w' q (.slice none 0 0) [] where
  row := World.ownsRow_nil _ _ _ _
  kb := fun _b e => nomatch e
  own := fun _x hx => nomatch hx
  eb := fun _x hx => nomatch hx
  two := List.Pairwise.nil

set_option maxRecDepth 100000 in
set_option maxHeartbeats 2000000 in
theorem collect_any (w : World) (hT : Taken w) (q p i n : Nat) (nx : Nat) (sl0 : Nat) (hB : LBlk w q p i n (.slice none 0 0) sl0 0 (.slice none 0 0) nx) (F : Foot) (s : SDev) (hd : DAt w p F s) (hq : ¬ F.all q) (hqt : 0 ≠ q) (ks : List Seg) (b0 : Nat) (hch : Chain n b0 ks) (m : Nat) (hm : ks.length = m) (hm1 : 1 ≤ m) (hon : OnDisk s.now i n ks)
    (hi : i ≤ 2048) (hn : n ≤ 200) (hin : i + 8 * n ≤ s.now.length) (hf : ∀ sg ∈ ks, sg.first ≤ 274877906943) (hend : ∀ sg ∈ ks, sg.end_ ≤ nx) (hnx : nx ≤ 549755813888) (ls : Nat) (hls : ls = slotBack b0 n m 0) :
    Calls Tryd.prog 37 #[.pointer (some ⟨q, 0, none⟩), .int .i64 (ls : Int)] w fun e w' => (∃ v, e = .returned v) ∧
      ∃ (K : Value) (d : List SegP), d.map Prod.fst = ks ∧ LBlk w' q p i n K ((b0 + m) % n) 0 (.slice none 0 0) nx ∧ Coll w w' q K d ∧ Keeps (fun b => b ≠ q) w w' := by
  have hmn : m ≤ n := by rw [← hm]; exact hch.len
  have hqlt : q < w.heap.size := (Array.getElem?_eq_some_iff.1 hB).1
  have HKD := Lib.hid (fun (W : World) (hk : Keeps (fun b => b ≠ q) w W) => hd.keep (hk.mono fun b _ hb e => hq (by rw [← e]; exact hb)))
  have HKT := Lib.hid (show ∀ W, Keeps (fun b => b ≠ q) w W → Taken W from fun W hk k hk16 => hk.cell (hT k hk16) hqt)
  have HYES := Lib.hid (fun (W : World) (hk : Keeps (fun b => b ≠ q) w W) (hL : LHead W q p i n) (j : Nat) (hj : j < ks.length) =>
    segm_yes W (HKT.out W hk) q p i n hL F s (HKD.out W hk) (ks[ks.length - 1 - j]'(rev_lt hj)) (hch.ok _ (List.getElem_mem _)) (hch.full _ (List.getElem_mem _)) (hon.on _ (List.getElem_mem _)) hi (by have := hch.slot_lt _ (List.getElem_mem (rev_lt hj)); omega) (hf _ (List.getElem_mem _)) (by have := hch.slot_lt _ (List.getElem_mem (rev_lt hj)); omega))
  have hnob : m < n → secAt s.now i (slotBack b0 n m m) 0 = none := fun hlt => by
    refine hon.none _ (Nat.mod_lt _ (by omega)) (fun sg hsg e => ?_) 0 (by decide)
    obtain ⟨t, ht, rfl⟩ := List.getElem_of_mem hsg
    rw [hch.slot t ht] at e
    have hb := hch.base
    have e : (b0 + t) % n = (b0 + n + m - 1 - m) % n := e
    rw [show b0 + n + m - 1 - m = b0 + (n - 1) by omega] at e
    have e1 : (b0 + t) % n = if b0 + t < n then b0 + t else b0 + t - n := by
      split
      · exact Nat.mod_eq_of_lt (by assumption)
      · rw [Nat.mod_eq_sub_mod (by omega), Nat.mod_eq_of_lt (by omega)]
    have e2 : (b0 + (n - 1)) % n = if b0 + (n - 1) < n then b0 + (n - 1) else b0 + (n - 1) - n := by
      split
      · exact Nat.mod_eq_of_lt (by assumption)
      · rw [Nat.mod_eq_sub_mod (by omega), Nat.mod_eq_of_lt (by omega)]
    rw [e1, e2] at e
    split at e <;> split at e <;> omega
  have HNO := Lib.hid (fun (W : World) (hk : Keeps (fun b => b ≠ q) w W) (hL : LHead W q p i n) (hlt : m < n) => segm_no W (HKT.out W hk) q p i n hL F s (HKD.out W hk) (slotBack b0 n m m) hi (by have := Nat.mod_lt (b0 + n + m - 1 - m) (show 0 < n by omega); unfold slotBack; omega) (by have := Nat.mod_lt (b0 + n + m - 1 - m) (show 0 < n by omega); unfold slotBack; omega) (hnob hlt))
  have HSB := Lib.hid (fun (j : Nat) (hj : j < ks.length) => slotBack_at hch j hj)
  have HSN := Lib.hid (fun (j : Nat) (hj : j < m) => slotBack_next (b0 := b0) (n := n) (by omega) hm1 hj)
  have HSL := Lib.hid (show ∀ j, slotBack b0 n m j < n from fun j => Nat.mod_lt _ (by omega))
  have HEND := Lib.hid hend
  have HM := Lib.hid hm
  have HB := Lib.hid hB
  have HLS := Lib.hid hls
  have HCNT := Lib.hid (fun sg (h : sg ∈ ks) => (hch.ok sg h).count)
  have HFULL := Lib.hid (fun sg (h : sg ∈ ks) => List.length_pos_iff.2 (hch.full sg h))
  have HRISE := Lib.hid hch.rise
  have HF := Lib.hid hf
  have HBM := Lib.hid (show ((slotBack b0 n m 0) + 1) % n = (b0 + m) % n from by
    unfold slotBack
    rw [Nat.mod_add_mod, show b0 + n + m - 1 - 0 + 1 = b0 + m + n by omega, Nat.add_mod_right])
  have c2 := (cell_of_block hB 2).trans rfl
  have c4 := (cell_of_block hB 4).trans rfl
  have f4 := unfrozen_of_block hB 4
  have c7 := (cell_of_block hB 7).trans rfl
  have hb1 := block_setCell hB (i := 4) (.int .i64 (ls : Int))
  have hk1 : Keeps (fun b => b ≠ q) w (w.setCell ⟨q, 4, none⟩ (.int .i64 (ls : Int))) := (Keeps.refl _ w).setCell (.inr fun hn => hn rfl) _
  have HB1 := Lib.hid (show LBlk (w.setCell ⟨q, 4, none⟩ (.int .i64 (ls : Int))) q p i n (.slice none 0 0) ls 0 (.slice none 0 0) nx from hb1)
  have HK1 := Lib.hid hk1
  clear hT hB hd hq hqt hch hon hf hend hm hls hb1 hk1 hnob hin
  go_enter Tryd.func37, Tryd.ntmps37
  go_wp2_with fail
  go_loopw [1, 4, 20] (fun v1 v4 vi wr => ∃ (j f cs : Nat) (K : Value) (d : List SegP), j ≤ m ∧ vi = .int .i64 j ∧ v1 = .int .i64 ((slotBack b0 n m j : Nat) : Int) ∧ v4 = .int .i64 (f : Int) ∧ f ≤ 549755813888 ∧ RowKit.Hid (∀ t (ht : t < ks.length), t + j < m → (ks[t]).end_ ≤ f) ∧ RowKit.Hid (d.map Prod.fst = ks.reverse.take j) ∧
      RowKit.Hid (LBlk wr q p i n K cs 0 (.slice none 0 0) nx) ∧ RowKit.Hid ((j = 0 → cs = ls) ∧ (0 < j → cs = (b0 + m) % n)) ∧ RowKit.Hid (Coll w wr q K d) ∧ RowKit.Hid (Keeps (fun b => b ≠ q) w wr)) (fun _ _ vi _ => n - (intOf vi).toNat)
  case atStart => exact ⟨0, nx, ls, .slice none 0 0, [], Nat.zero_le _, rfl, by rw [HLS.out], rfl, hnx, Lib.hid (fun t ht _ => HEND.out _ (List.getElem_mem _)), Lib.hid rfl, HB1, Lib.hid ⟨fun _ => rfl, fun h => absurd h (by decide)⟩, Lib.hid (Coll.nil _ _ _), HK1⟩
  case round =>
    obtain ⟨j, f, cs, K, d, hj, rfl, rfl, rfl, hfb, hfs, hds, hblk, hcs, hcol, hkw⟩ := hrel
    have hbq : q < wr.heap.size := (Array.getElem?_eq_some_iff.1 hblk.out).1
    obtain ⟨AK, cK, rfl⟩ := own_form hcol.out.row
    have hdl : d.length = j := by
      have := congrArg List.length hds.out
      rw [List.length_map, List.length_take, List.length_reverse, HM.out] at this
      omega
    have hzw : w.heap.size ≤ wr.heap.size := hkw.out.size
    by_cases hjn : j < n
    · have tjn : decide ((j : Int) < (n : Int)) = true := by simp; omega
      by_cases hjm : j < m
      · have hjk : j < ks.length := by rw [HM.out]; exact hjm
        obtain ⟨sg, hsg⟩ : ∃ sg, ks[ks.length - 1 - j]'(rev_lt hjk) = sg := ⟨_, rfl⟩
        have hsl : slotBack b0 n m j = sg.slot := by rw [← hsg, ← HSB.out j hjk, HM.out]
        have hmem : sg ∈ ks := hsg ▸ List.getElem_mem _
        have hcall := HYES.out wr hkw.out hblk.out.head j hjk
        rw [hsg] at hcall
        have hefs := hfs.out _ (rev_lt hjk) (by rw [HM.out]; omega)
        rw [hsg] at hefs
        unfold Seg.end_ at hefs
        have hcnt := HCNT.out sg hmem
        have hpos := HFULL.out sg hmem
        have hfirst := HF.out sg hmem
        obtain ⟨rl, hrl⟩ : ∃ rl, sg.recs.length = rl := ⟨_, rfl⟩
        rw [hrl] at hcall hefs hcnt hpos
        have HCALL := Lib.hid hcall
        have HSG := Lib.hid hsg
        have HSLT := Lib.hid hsl
        have HRL := Lib.hid hrl
        have hslb : sg.slot < n := by rw [← hsl]; exact HSL.out j
        have HNX := Lib.hid (HSN.out j hjm)
        have tgt : decide ((f : Int) < (sg.first : Int) + (rl : Int)) = false := by simp; omega
        have tpos : decide ((0 : Int) < (rl : Int)) = true := by simp; omega
        have tpos2 : decide (0 < rl) = true := by simp; omega
        rw [hsl]
        clear hcall hsg hsl hrl
        go_wp2_with fail
        refine HCALL.out.mono ?_
        rintro e w1 ⟨A, c, rfl, ho1, hk1⟩
        have HO1 := Lib.hid ho1
        have HK1' := Lib.hid hk1
        clear ho1 hk1
        go_wp2_with fail
        refine (snext_any _ sg.slot sg.first A rl c (by omega) (by omega)).mono ?_
        rintro e w3 ⟨rfl, hk3⟩
        have hbox := heap_alloc_new w1 (.cells #[.int .i64 (sg.slot : Int), .int .i64 (sg.first : Int), .slice A rl c] 67)
        have hw12 : Kp w1 (w1.alloc (.cells #[.int .i64 (sg.slot : Int), .int .i64 (sg.first : Int), .slice A rl c] 67)) := (Keeps.refl _ w1).alloc _
        have hb3 := (hk3.block w1.heap.size trivial (by simp)).trans hbox
        have x0 := (cell_of_block hb3 0).trans rfl
        have x1 := (cell_of_block hb3 1).trans rfl
        have x2 := (cell_of_block hb3 2).trans rfl
        have HB3 := Lib.hid hb3
        have HK3 := Lib.hid (show Kp wr w3 from HK1'.out.trans (hw12.trans hk3))
        have hz1 := HK1'.out.size
        have hz3 : w1.heap.size < w3.heap.size := (Array.getElem?_eq_some_iff.1 hb3).1
        have HO3 := Lib.hid ((hw12.trans hk3).own HO1.out fun _ _ => trivial)
        clear hk3 hbox hw12 hb3
        go_wp2_with fail
        refine (count_any _ (.int .i64 (sg.slot : Int)) (.int .i64 (sg.first : Int)) A rl c rfl rfl).mono ?_
        rintro e w4 ⟨rfl, hk4⟩
        have hb4 := (hk4.block w1.heap.size trivial hz3).trans HB3.out
        have x0 := (cell_of_block hb4 0).trans rfl
        have x1 := (cell_of_block hb4 1).trans rfl
        have x2 := (cell_of_block hb4 2).trans rfl
        have HB4 := Lib.hid hb4
        have HK4 := Lib.hid (HK3.out.trans hk4)
        have HO4 := Lib.hid (hk4.own HO3.out fun _ _ => trivial)
        have hz4 : w3.heap.size ≤ w4.heap.size := hk4.size
        have hblk4 := hblk.out.keep HK4.out trivial
        have HBLK4 := Lib.hid hblk4
        have c3 := (cell_of_block hblk4 3).trans rfl
        clear hk4 hb4 hblk4
        go_wp2_with fail
        have hOlt : ∀ b, (Value.slice AK d.length cK).ownBlock = some b → w.heap.size ≤ b ∧ b < wr.heap.size := fun b e => ⟨hcol.out.kb b e, (hcol.out.row.lt b e).2⟩
        have HOLT := Lib.hid hOlt
        have HROW4 := Lib.hid (HK4.out.own hcol.out.row fun _ _ => trivial)
        have hz4r : wr.heap.size ≤ w4.heap.size := HK4.out.size
        have HC3 := Lib.hid c3
        have HX0 := Lib.hid x0
        have HX1 := Lib.hid x1
        have HX2 := Lib.hid x2
        refine wp_region_two (V := VC w4.heap.size q (.slice AK d.length cK) (.agg #[.int .i64 (sg.slot : Int), .int .i64 (sg.first : Int), .slice A rl c]) [.int .i64 (sg.slot : Int), .int .i64 (sg.first : Int), .slice A rl c] (d.length + 1) (encP d ++ [.int .i64 (sg.slot : Int), .int .i64 (sg.first : Int), .slice A rl c])) (w0 := w4) 7 10 (SC w4 q (Value.slice AK d.length cK).ownBlock (d.length + 1) (encP d ++ [.int .i64 (sg.slot : Int), .int .i64 (sg.first : Int), .slice A rl c])) (fun a b => Keeps (fun x => (Value.slice AK d.length cK).ownBlock ≠ some x) a b) (fun a b => Keeps (fun x => x ≠ q) a b) GE (by kernel_rfl) (fun i w w' v h hv => VC_k (fun _ => True) i (fun _ _ _ _ => trivial) (fun _ _ _ => trivial) w w' v h hv) (fun b c w w' h hs => hs.keep h)
          (fun i hi w w' v h hv => VC_k _ i (fun _ B h1 _ => h1) (fun e => absurd e hi) w w' v h hv) (fun i _ w w' v h hv => VC_k _ i (fun _ B _ h2 => h2) (fun _ b hb => hb) w w' v h hv) (by kernel_rfl) (by kernel_rfl) (by decide) (by decide) GE_is (fun i o ho hw => (all_wanted (by kernel_rfl) ho hw).elim) (Keeps.refl _ w4).drew (each_of ?_) ?_
        · refine ⟨?_, ?_, ?_, ?_, ?_, ?_, ?_, ?_, ?_, ?_, ?_, trivial⟩ <;> intro hw a2 w7 Z
          · rw [if_neg (by decide), if_neg (by decide)]
            intro b c hs _ _
            exact kp_move rfl (Z.old 0 (by kernel_rfl))
          · rw [if_neg (by decide), if_neg (by decide)]
            intro b c hs _ _
            exact kp_move rfl (Z.old 0 (by kernel_rfl))
          · rw [if_neg (by decide), if_neg (by decide)]
            intro b c hs _ _
            exact kp_nilL rfl (Z.val 1 43 (by kernel_rfl) (by kernel_rfl))
          · rw [if_neg (by decide), if_neg (by decide)]
            intro b c hs _ _
            exact kp_fL3 rfl (Z.val 2 44 (by kernel_rfl) (by kernel_rfl))
          · rw [if_neg (by decide), if_neg (by decide)]
            intro b c hs _ hb
            obtain rfl := hb [] (by kernel_rfl)
            exact kp_lK (hs.kp0.cell HC3.out trivial) rfl (Z.val 3 45 (by kernel_rfl) (by kernel_rfl))
          · rw [if_neg (by decide), if_neg (by decide)]
            intro b c hs _ hb
            obtain rfl := hb [6] (by kernel_rfl)
            exact kp_lG (hs.kp0.cell HX0.out trivial) (hs.kp0.cell HX1.out trivial) (hs.kp0.cell HX2.out trivial) rfl (Z.old 6 (by kernel_rfl))
          · rw [if_neg (by decide), if_neg (by decide)]
            intro b c hs _ hb
            obtain rfl := hb [] (by kernel_rfl)
            refine Oper.wp_mono (fun a' w' hk' => ?_) (kp_oneS rfl rfl rfl rfl (Z.val 5 47 (by kernel_rfl) (by kernel_rfl)))
            obtain ⟨v, rfl, hk, rfl, rfl⟩ := hk'
            have h1 := hs.kp0.size
            exact ⟨_, rfl, hk, _, rfl, fun e => by have := (HOLT.out _ e).2; omega, by omega, heap_alloc_new w7 _⟩
          · rw [if_pos rfl]
            intro hs
            have hs : Kp w4 w7 := hs
            have e4 : a2.eval (.tmp 46) = .slice AK d.length cK := Z.val 4 46 (by kernel_rfl) (by kernel_rfl)
            obtain ⟨B, e6, h1, h2, hbB⟩ := (show LitS (Value.slice AK d.length cK).ownBlock q [.int .i64 (sg.slot : Int), .int .i64 (sg.first : Int), .slice A rl c] w7 (a2.eval (.tmp 48)) from Z.val 6 48 (by kernel_rfl) (by kernel_rfl))
            refine seg_elem.wp_append (.tmp 46) (.tmp 48) 58 rfl e4 (hs.own HROW4.out fun _ _ => trivial) e6 (lits_src hbB rfl (by simp [Value.oneCell'])) (by unfold maxLen; omega) (by omega) (Nat.zero_le _) ?_
            intro v' w' ho hg hb
            have hgr : Keeps (fun x => (Value.slice AK d.length cK).ownBlock ≠ some x) w7 w' := Keeps.of_grown hg fun x hx _ hn => hn hx
            refine ⟨v', rfl, hgr, (hs.mono fun _ _ _ => trivial).trans hgr, ho, ?_, ?_⟩
            · exact hb.imp id fun e => ⟨_, e, hs.size⟩
            · intro e
              rcases hb with h | h
              · rw [h] at e; have := HOLT.out q e; omega
              · rw [h] at e; injection e with e; have := hs.size; omega
          · rw [if_neg (by decide), if_neg (by decide)]
            intro b c hs _ _
            exact kp_nilL rfl (Z.val 0 42 (by kernel_rfl) (by kernel_rfl))
          · rw [if_neg (by decide), if_neg (by decide)]
            intro b c hs _ _
            exact kp_fL3 rfl (Z.val 8 50 (by kernel_rfl) (by kernel_rfl))
          · rw [if_neg (by decide), if_pos rfl]
            intro hs
            have hs : Keeps (fun x => (Value.slice AK d.length cK).ownBlock ≠ some x) w4 w7 := hs
            have hap : AppS w4.heap.size q (Value.slice AK d.length cK).ownBlock (d.length + 1) (encP d ++ [.int .i64 (sg.slot : Int), .int .i64 (sg.first : Int), .slice A rl c]) w7 (a2.eval (.tmp 49)) := Z.val 7 49 (by kernel_rfl) (by kernel_rfl)
            have hqO : (Value.slice AK d.length cK).ownBlock ≠ some q := fun e => by have := HOLT.out q e; omega
            have hb7 := HBLK4.out.keep hs hqO
            obtain ⟨A9, c9, e9⟩ := own_form hap.1
            refine Oper.wp_mono (fun a' w' hk' => ?_) (one_cell 58 rfl (by kernel_rfl) ⟨q, 3, none⟩ (a2.eval (.tmp 49)) _ (by rw [e9]; rfl) ((cell_of_block hb7 3).trans rfl) (unfrozen_of_block hb7 3) (Z.val 9 51 (by kernel_rfl) (by kernel_rfl)) rfl)
            obtain ⟨v, rfl, rfl⟩ := hk'
            exact ⟨v, rfl, (Keeps.refl _ w7).setCell (.inr fun hn => hn rfl) _, ⟨w7, _, hs, hap, Keeps.refl _ _⟩, trivial⟩
        · intro vs4 wE hsE hlenE hvE
          match vs4, hlenE with
          | [y0, y1, y2, y3, y4, y5, y6, y7, y8, y9, y10], _ =>
            clear hvE
            simp only [putAll, List.map, Act.put, List.setIfInBounds_toArray, List.set_cons_succ, List.set_cons_zero, Exit.then]
            obtain ⟨W1, v, hkW, hap, hkE⟩ := hsE
            have hqO : (Value.slice AK d.length cK).ownBlock ≠ some q := fun e => by have := HOLT.out q e; omega
            have hcE : Coll w wE q v (d ++ [(sg, (A, c))]) := by
              have hxE : (SegP.E (sg, (A, c))) = .slice A rl c := by show Value.slice A sg.recs.length c = _; rw [HRL.out]
              have hx4 : w4.ownsRow wr.heap.size 3 1 (SegP.E (sg, (A, c))) sg.recs.length (endsC sg.recs) := by rw [hxE, HRL.out]; exact HO4.out
              have hp : Coll w W1 q v (d ++ [(sg, (A, c))]) := (hcol.out.keep (HK4.out.mono fun _ _ _ => trivial)).put (ownsRow_le hx4 (Nat.zero_le _)) (fun b e => ⟨by have := (hx4.lt b e).1; omega, fun e2 => by have h1 := (hx4.lt b e).1; have h2 := (HOLT.out b e2).2; omega⟩)
                (fun y hy b e e2 => by have h1 := ((hcol.out.own y hy).lt b e).2; have h2 := (hx4.lt b e2).1; omega) (by rw [enc_snoc, hxE]; exact hap.1) hkW hap.2.1 (by omega)
              exact (hp.keep ((Keeps.refl _ W1).setCell (.inr fun hn => by have hn : w.heap.size ≤ q := hn; omega) _)).keep (hkE.mono fun _ _ _ => trivial)
            obtain ⟨Av, cv, rfl⟩ := own_form hap.1
            have hbE : LBlk wE q p i n (.slice Av (d.length + 1) cv) cs 0 (.slice none 0 0) nx := LBlk.keep (G := fun _ => True) (show LBlk (W1.setCell ⟨q, 3, none⟩ (.slice Av (d.length + 1) cv)) q p i n (.slice Av (d.length + 1) cv) cs 0 (.slice none 0 0) nx from block_setCell (HBLK4.out.keep hkW hqO) (i := 3) (.slice Av (d.length + 1) cv)) hkE trivial
            have hkg : Keeps (fun b => b ≠ q) W1 (W1.setCell ⟨q, 3, none⟩ (.slice Av (d.length + 1) cv)) := (Keeps.refl _ W1).setCell (.inr fun hn => hn rfl) _
            have hall : Keeps (fun b => b ≠ q ∧ (Value.slice AK d.length cK).ownBlock ≠ some b) w4 wE := keeps_on (keeps_on (hkW.mono fun _ _ hb => hb.2) hkg fun _ _ hb => hb.1) hkE fun _ _ _ => trivial
            have hkwE : Keeps (fun b => b ≠ q) w wE := keeps_on (keeps_on hkw.out HK4.out fun _ _ _ => trivial) hall fun b hl hb => ⟨hb, fun e => by have := (HOLT.out b e).1; omega⟩
            have hbx := (hall.block w1.heap.size ⟨by omega, fun e => by have := (HOLT.out _ e).2; omega⟩ (by omega)).trans HB4.out
            have x0 := (cell_of_block hbx 0).trans rfl
            have x1 := (cell_of_block hbx 1).trans rfl
            have x2 := (cell_of_block hbx 2).trans rfl
            have HCE := Lib.hid hcE
            have HBE := Lib.hid hbE
            have HKWE := Lib.hid hkwE
            have hds' : (d ++ [(sg, (A, c))]).map Prod.fst = ks.reverse.take (j + 1) := by
              rw [List.map_append, hds.out, take_next ks.reverse j (by rw [List.length_reverse]; exact hjk), List.getElem_reverse]
              rw [HSG.out]
              rfl
            have HDS := Lib.hid hds'
            have HFS := Lib.hid (show ∀ t (ht : t < ks.length), t + (j + 1) < m → (ks[t]).end_ ≤ sg.first from fun t ht htj => by
              have hh := List.pairwise_iff_getElem.1 HRISE.out t (ks.length - 1 - j) ht (rev_lt hjk) (by rw [HM.out]; omega)
              rw [HSG.out] at hh
              exact hh)
            have hqE : q < wE.heap.size := (Array.getElem?_eq_some_iff.1 hbE).1
            have hw1E : w1.heap.size < wE.heap.size := (Array.getElem?_eq_some_iff.1 hbx).1
            clear hkW hap hkE hcE hbE hkg hall hkwE hbx hds' HROW4 HC3 HX0 HX1 HX2 HO4 HB4 HBLK4
            have qm : ((sg.slot : Int) + (n : Int) - 1).tmod (n : Int) = ((slotBack b0 n m (j + 1) : Nat) : Int) := by
              have h1 := HNX.out
              rw [HSLT.out] at h1
              rw [Int.tmod_eq_emod_of_nonneg (by omega), ← h1]
              have e : (sg.slot : Int) + (n : Int) - 1 = ((sg.slot + n - 1 : Nat) : Int) := by omega
              rw [e]; rfl
            have hsb1 : slotBack b0 n m (j + 1) < n := HSL.out (j + 1)
            obtain ⟨sb, hsb⟩ : ∃ sb, slotBack b0 n m (j + 1) = sb := ⟨_, rfl⟩
            have HSBX := Lib.hid hsb
            rw [hsb] at qm hsb1
            clear hsb
            by_cases hj0 : j = 0
            · have t10 : ((j : Int) == 0) = true := by simp [hj0]
              have HJ0 := Lib.hid hj0
              clear hj0
              go_wp2_with fail
              refine (count_any _ (.int .i64 (sg.slot : Int)) (.int .i64 (sg.first : Int)) A rl c rfl rfl).mono ?_
              rintro e w5 ⟨rfl, hk5⟩
              have hb5 := HBE.out.keep hk5 trivial
              have hbh := behind_any w5 q p i n hb5.head sg.slot (by omega) (by omega) (by omega)
              have hrr : (sg.slot + 1) % n = (b0 + m) % n := by
                rw [← HBM.out, ← HSLT.out, HJ0.out]
              rw [hrr] at hbh
              obtain ⟨rr, hrr2⟩ : ∃ rr, (b0 + m) % n = rr := ⟨_, rfl⟩
              rw [hrr2] at hbh
              have HRR := Lib.hid hrr2
              have HBH := Lib.hid hbh
              have c4 := (cell_of_block hb5 4).trans rfl
              have f4 := unfrozen_of_block hb5 4
              have hb6 : LBlk (w5.setCell ⟨q, 4, none⟩ (.int .i64 (rr : Int))) q p i n (.slice Av (d.length + 1) cv) rr 0 (.slice none 0 0) nx := block_setCell hb5 (i := 4) (.int .i64 (rr : Int))
              have HB6 := Lib.hid hb6
              have HC6 := Lib.hid ((HCE.out.keep (hk5.mono fun _ _ _ => trivial)).keep ((Keeps.refl _ w5).setCell (p := ⟨q, 4, none⟩) (.inr fun hn => by have hn : w.heap.size ≤ q := hn; omega) (.int .i64 (rr : Int))))
              have HK6 := Lib.hid (show Keeps (fun b => b ≠ q) w (w5.setCell ⟨q, 4, none⟩ (.int .i64 (rr : Int))) from (keeps_on HKWE.out hk5 fun _ _ _ => trivial).setCell (.inr fun hn => hn rfl) _)
              clear hk5 hb5 hbh hrr hrr2 hb6
              go_wp2_with fail
              refine HBH.out.mono ?_
              rintro e w9 ⟨rfl, rfl⟩
              go_wp2_with fail
              generalize w5.setCell ⟨q, 4, none⟩ (.int .i64 (rr : Int)) = wX at HB6 HC6 HK6 ⊢
              have c2 := (cell_of_block HB6.out 2).trans rfl
              go_region
              go_wp2_with fail
              go_roundw
              case rel => exact ⟨j + 1, sg.first, rr, _, d ++ [(sg, (A, c))], by omega, by go_num, by rw [HSBX.out], rfl, by omega, HFS, HDS, Lib.hid (HB6.out.keep (Keeps.refl (fun _ => True) _).drew trivial), Lib.hid ⟨fun h => by omega, fun _ => HRR.out.symm⟩, Lib.hid (HC6.out.keep (Keeps.refl _ _).drew), Lib.hid (keeps_on HK6.out (Keeps.refl (fun _ => True) _).drew fun _ _ _ => trivial)⟩
              case measure => simp [intOf]; omega
            · have t10 : ((j : Int) == 0) = false := by simp [hj0]
              have HJ0 := Lib.hid (show 0 < j by omega)
              have hcs2 := hcs.out.2 (by omega)
              have HCS2 := Lib.hid hcs2
              clear hj0 hcs2
              have c2 := (cell_of_block HBE.out 2).trans rfl
              go_wp2_with fail
              go_region
              go_wp2_with fail
              go_roundw
              case rel => exact ⟨j + 1, sg.first, cs, _, d ++ [(sg, (A, c))], by omega, by go_num, by rw [HSBX.out], rfl, by omega, HFS, HDS, Lib.hid (HBE.out.keep (Keeps.refl (fun _ => True) _).drew trivial), Lib.hid ⟨fun h => by omega, fun _ => HCS2.out⟩, Lib.hid (HCE.out.keep (Keeps.refl _ _).drew), Lib.hid (keeps_on HKWE.out (Keeps.refl (fun _ => True) _).drew fun _ _ _ => trivial)⟩
              case measure => simp [intOf]; omega
      · obtain rfl : j = m := by omega
        have hdr : d.map Prod.fst = ks.reverse := by rw [hds.out, List.take_of_length_le (by rw [List.length_reverse, HM.out]; omega)]
        obtain ⟨g, c', hform, -, -⟩ := hcol.out.row.form (by omega)
        injection hform with e1 _ e3
        subst e1 e3
        have hcsv : cs = (b0 + j) % n := hcs.out.2 (by omega)
        have HREV := Lib.hid (rev_exit w wr q p i n g cK cs nx d ks (by omega) hqlt hcol.out hblk.out hkw.out hdr)
        have HCSV := Lib.hid hcsv
        clear hcsv
        have hno := HNO.out wr hkw.out hblk.out.head hjn
        have HNOC := Lib.hid hno
        have hdl200 : d.length ≤ 200 := by omega
        clear hdr hno hds hcs hcol hkw hdl
        generalize slotBack b0 n j j = sb at HNOC ⊢
        go_wp2_with fail
        refine HNOC.out.mono ?_
        rintro e w1 ⟨rfl, hk1⟩
        have hb1 := hblk.out.keep hk1 trivial
        have c3 := (cell_of_block hb1 3).trans rfl
        have hq1 : q < w1.heap.size := (Array.getElem?_eq_some_iff.1 hb1).1
        have HK1' := Lib.hid (hk1.alloc (.cells #[.int .i64 0, .int .i64 0, .slice none 0 0] 67))
        clear hk1 hb1
        go_wp2_with fail
        with_reducible refine (HREV.out _ HK1'.out).mono ?_
        rintro e w2 ⟨rfl, hpost⟩
        have HP := Lib.hid hpost
        clear hpost
        go_wp2_with fail
        go_end0
        exact ⟨⟨_, rfl⟩, by have h := HP.out; rw [HCSV.out] at h; exact h⟩
    · obtain rfl : j = m := by omega
      have tjn : decide ((j : Int) < (n : Int)) = false := by simp; omega
      have hdr : d.map Prod.fst = ks.reverse := by rw [hds.out, List.take_of_length_le (by rw [List.length_reverse, HM.out]; omega)]
      obtain ⟨g, c', hform, -, -⟩ := hcol.out.row.form (by omega)
      injection hform with e1 _ e3
      subst e1 e3
      have hcsv : cs = (b0 + j) % n := hcs.out.2 (by omega)
      have HREV := Lib.hid (rev_exit w wr q p i n g cK cs nx d ks (by omega) hqlt hcol.out hblk.out hkw.out hdr)
      have HCSV := Lib.hid hcsv
      clear hcsv
      have c3 := (cell_of_block hblk.out 3).trans rfl
      clear hdr hds hcs hcol hkw hdl
      go_wp2_with fail
      with_reducible refine (HREV.out wr (Keeps.refl _ _)).mono ?_
      rintro e w2 ⟨rfl, hpost⟩
      have HP := Lib.hid hpost
      clear hpost
      go_wp2_with fail
      go_end0
      exact ⟨⟨_, rfl⟩, by have h := HP.out; rw [HCSV.out] at h; exact h⟩

end Go.Proofs.YtgdbkmecfbkobaaDoor
