/-
  SlgExtend: texts of mine, joined.
-/
import Derived.Test.YticophaepapjoaaGreatDoorAllB39
open Go.Lib renaming hid → Hd
set_option maxRecDepth 100000
set_option maxHeartbeats 8000000
namespace Go.Proofs.YticophaepapjoaaGreatDoor
open Go Go.RowKit Go.Joins Go.Shelf
attribute [local go_sem] Oper.semAt_some
theorem extend_any (w : World) (hT : Taken w) (q : Nat) (Fs : Foot) (p i n : Nat) (ks : List Seg) (sg : Seg) (sl left nx : Nat) (tl : List UInt8) (K T : Value) (Es : List Value) (h : LogAt w q Fs p i n (ks ++ [sg]) sl left nx tl K T Es) (F : Foot) (s : SDev) (hd : DAt w p F s) (ha : Apart F Fs) (hTM : ¬ F.M 0)
  (r : LRec) (A : Option Addr) (c : Nat) (R : Nat → Prop) (hrx : Row w A R (bcells (putT r.body))) (hx0 : 1 ≤ (putT r.body).length) (hxl : (putT r.body).length ≤ left) (hle : left ≤ 424) (hsum : endAt sg.recs sg.recs.length + left = 424) (htl : tl.length = endAt sg.recs sg.recs.length % 53)
  (hrl : sg.recs.length ≤ 400) (hi : i ≤ 2048) (hsl : sg.slot < n) (hn : n ≤ 200) (hin : i + 8 * n ≤ s.now.length) (hf : sg.first ≤ 274877906943) (hkl : ks.length ≤ 200) (hcalls : s.calls ≤ 549755813888 + 100) :
  Calls Tryz.prog 106 #[.pointer (some ⟨q, 0, none⟩), .slice A (putT r.body).length c] w fun e w' => e = .returned (.int .i64 0) ∧ ∃ (F' Fs' : Foot) (T' : Value) (tl' : List UInt8) (Es' : List Value),
   DAt w' p F' (s.puts (i + sg.slot * 8 + endAt sg.recs sg.recs.length / 53) (sg.first * 8 + endAt sg.recs sg.recs.length / 53) (tl ++ putT r.body) (chunks (tl ++ putT r.body).length)) ∧
   tl' = (tl ++ putT r.body).drop ((tl ++ putT r.body).length / 53 * 53) ∧
   LogAt w' q Fs' p i n (ks ++ [⟨sg.slot, sg.first, sg.recs ++ [r]⟩]) sl (left - (putT r.body).length) nx tl' K T' Es' ∧ Went w w' F F' Fs Fs' := by
 obtain ⟨x, hx⟩ : ∃ x, tl ++ putT r.body = x := ⟨_, rfl⟩
 rw [hx]
 refine (callsIn_wide (n := 6)).1 ?_
 refine callsIn_of_wp_marks Tryz.func106 rfl trivial ?_ rfl
 simp only [Tryz.ntmps106, List.size_toArray, List.length_cons, List.length_nil, Nat.reduceAdd, Nat.reduceSub, Array.replicate_succ, Array.replicate_zero, List.push_toArray, List.append_toArray, List.nil_append, List.cons_append]
 have c3 := (cell_of_block h.blk 3).trans rfl
 have c6 := (cell_of_block h.blk 6).trans rfl
 obtain ⟨A3, k3, hK, hk31, hk32, hSEG⟩ := h.segs
 obtain ⟨g, k3', hK', -, -⟩ := h.row.form (by simp)
 rw [hK'] at hK
 injection hK with e1 e2 e3
 subst e1 e3
 obtain ⟨b0, o0, E, e0, hgM, s0, s1, s2, hE⟩ := hSEG ks.length (by simp)
 injection e0 with e0
 injection e0 with e0 e00
 subst e0 e00
 rw [List.getElem_concat_length rfl] at s0 s1 hE
 obtain ⟨A6, k6, rfl, ht1, ht2, hTL⟩ := h.tail
 subst hK'
 have HA := Hd h
 have HD := Hd hd
 obtain ⟨tn, htn⟩ : ∃ tn, tl.length = tn := ⟨_, rfl⟩
 have HTN := Hd htn
 rw [htn] at ht1 c6 htl
 have HTLN := Hd htl
 have htn53 : tn < 53 := by omega
 obtain ⟨N, hN⟩ : ∃ N, (putT r.body).length = N := ⟨_, rfl⟩
 have HN := Hd hN
 rw [hN] at hxl hx0 ⊢
 have HR := Hd hrx
 obtain ⟨m, hm⟩ : ∃ m, ks.length = m := ⟨_, rfl⟩
 have hm1 : (ks ++ [sg]).length = m + 1 := by rw [List.length_append, List.length_singleton, hm]
 have HM := Hd hm
 rw [hm1] at c3 hk31 
 rw [hm] at hkl
 have hmk : m < k3' := by omega
 have hs : ((((m + 1 : Nat)) : Int) - 1) = (m : Int) := by omega
 have HTL := Hd hTL
 rw [hm, Nat.zero_add] at s0 s1 s2
 obtain ⟨AE, cE, rfl, hRE⟩ := hE
 obtain ⟨en, hen⟩ : ∃ en, endAt sg.recs sg.recs.length = en := ⟨_, rfl⟩
 obtain ⟨rl, hrl'⟩ : ∃ rl, sg.recs.length = rl := ⟨_, rfl⟩
 have HRE := Hd hRE
 have HEN := Hd hen
 have HRL := Hd hrl'
 obtain ⟨kk, hkk⟩ : ∃ kk, en / 53 = kk := ⟨_, rfl⟩
 have HKK := Hd hkk
 have HLEN := Hd hrl
 rw [hrl'] at s2
 have HS2 := Hd s2
 clear hm hm1 hSEG hTL
 have hq : q < w.heap.size := HA.out.lt q (.inl HA.out.mq)
 clear h hd hN htn htl hrx
 refine wpIn_wide.2 ?_
 go_wp2_with fail
 have hwm : IntKind.i64.wrap (m : Int) = (m : Int) := by rw [IntKind.wrap_i64]; omega
 obtain ⟨w2, hw2⟩ : ∃ w2, (w.alloc (.cells #[.pointer (some ⟨q, 0, none⟩)] 89)).alloc (.cells #[.int .i64 0] 27) = w2 := ⟨_, rfl⟩
 have hk2 : Kp w w2 := by rw [← hw2]; exact ((Keeps.refl _ w).alloc _).alloc _
 have hz2 : w2.heap.size = w.heap.size + 2 := by rw [← hw2]; simp
 have bl : w2.cell? ⟨w.heap.size, 0, none⟩ = some (.pointer (some ⟨q, 0, none⟩)) := by rw [← hw2, World.cell?_alloc_lt _ _ _ (by simp), World.cell?_alloc_at _ _ _ _ rfl]; rfl
 have bo : w2.cell? ⟨w.heap.size + 1, 0, none⟩ = some (.int .i64 0) := by rw [← hw2, World.cell?_alloc_at _ _ _ _ (by simp)]; rfl
 have hbo2 : w2.heap[w.heap.size + 1]? = some (.cells #[.int .i64 0] 27 (0, 0)) := by
  have := heap_alloc_new (w.alloc (.cells #[.pointer (some ⟨q, 0, none⟩)] 89)) (.cells #[.int .i64 0] 27)
  rw [World.size_alloc] at this
  rw [← hw2]; exact this
 have HBR2 := Hd hbo2
 clear hbo2
 have c3 := hk2.cell c3 trivial
 have c6 := hk2.cell c6 trivial
 have s0 := hk2.cell s0 trivial
 have s1 := hk2.cell s1 trivial
 have s2 := hk2.cell s2 trivial
 have hg2 := World.block_lt_of_cell? w2 _ s0
 have hq2 : q < w2.heap.size := by omega
 have hl2 : w.heap.size < w2.heap.size := by omega
 rw [hw2]
 clear hw2
 have HZ2 := Hd hz2
 have HK2 := Hd hk2
 clear hz2 hk2
 have HX := Hd hx
 have hxlen : x.length = tn + N := by rw [← hx, List.length_append, HTN.out, HN.out]
 have HCAT := Hd (show ∀ (w3 : World) (B : Nat), Kp w2 w3 → Row w3 (some ⟨B, 0, none⟩) (fun _ => True) [.slice A6 tn k6, .slice A N c] → Calls Tryz.prog 135 #[.slice (some ⟨B, 0, none⟩) 2 2] w3 fun e w' => ∃ v, e = .returned v ∧ OwnB w' w3.heap.size v x ∧ Kp w3 w' from fun w3 B hk hr => by
  have hj : joined [⟨A6, k6, tl⟩, ⟨A, c, putT r.body⟩] = x := by simp [joined, hx]
  have := concat_any w3 (some ⟨B, 0, none⟩) 2 [⟨A6, k6, tl⟩, ⟨A, c, putT r.body⟩] (fun _ => True) (fun _ => True) (by
    show Row w3 _ _ [.slice A6 tl.length k6, .slice A (putT r.body).length c]
    rw [HTN.out, HN.out]
    exact hr) (by
    intro pt hpt
    rcases List.mem_cons.1 hpt with rfl | hpt
    ·exact ⟨((HTL.out.mono fun _ _ _ => trivial).keep (HK2.out.trans hk)), by unfold maxLen; show tl.length ≤ _; rw [HTN.out]; omega⟩
    ·rw [List.mem_singleton.1 hpt]
     exact ⟨((HR.out.mono fun _ _ _ => trivial).keep (HK2.out.trans hk)), by unfold maxLen; show (putT r.body).length ≤ _; rw [HN.out]; omega⟩) (by simp) (by rw [hj, hxlen]; omega) (by rw [hj, hxlen]; omega)
  rw [hj] at this
  exact this)
 clear hx
 have HC3 := Hd c3
 have HBL := Hd bl
 refine wp_region_slot (V := VX w2.heap.size q g m k3') (w0 := w2) 12 11 (SX w2 (.pointer (some ⟨g, m * 3, none⟩))) RX GE (by kernel_rfl) (fun i w w' v h hv => VX_any i w w' v (fun b hb => hb.kp h) hv) (fun b u w w' h hs => hs.keep h) (fun _ _ _ h => h) ⟨5, by kernel_rfl⟩ (by kernel_rfl) (by decide) (fun i _ a b v h hv => VX_any i a b v h hv) (by kernel_rfl) (by decide) GE_is (fun i o ho hw => (all_wanted (by kernel_rfl) ho hw).elim) (fun _ => (Keeps.refl _ w2).drew) (each_of ?_) ?_
 ·refine ⟨?_, ?_, ?_, ?_, ?_, ?_, ?_, ?_, ?_, ?_, ?_, ?_, ?_, trivial⟩ <;> intro hw a1 w3 L
  ·rw [if_neg (by decide)]
   intro b hs _
   exact kp_lPL (hs.kp0.cell HBL.out trivial) rfl (L.o 2)
  ·rw [if_neg (by decide)]
   intro b hs _
   exact kp_nilL rfl (L.v 0 10)
  ·rw [if_neg (by decide)]
   intro b hs _
   exact kp_fL3 rfl (L.v 1 11)
  ·rw [if_neg (by decide)]
   intro b hs _
   exact kp_lK (hs.kp0.cell HC3.out trivial) rfl (L.v 2 12)
  ·rw [if_neg (by decide)]
   intro b hs _
   exact kp_lPL (hs.kp0.cell HBL.out trivial) rfl (L.o 2)
  ·rw [if_neg (by decide)]
   intro b hs _
   exact kp_nilL rfl (L.v 4 14)
  ·rw [if_neg (by decide)]
   intro b hs _
   exact kp_fL3 rfl (L.v 5 15)
  ·rw [if_neg (by decide)]
   intro b hs _
   exact kp_lK (hs.kp0.cell HC3.out trivial) rfl (L.v 6 16)
  ·rw [if_neg (by decide)]
   intro b hs _
   exact kp_lenK rfl (L.v 7 17)
  ·rw [if_neg (by decide)]
   intro b hs _
   exact kp_sub1 (by omega) rfl (L.v 8 18)
  ·rw [if_neg (by decide)]
   intro b hs _
   exact kp_idxK (Nat.lt_succ_self m) rfl (L.v 3 13) (L.v 9 19)
  ·rw [if_neg (by decide)]
   intro b hs _
   refine Oper.wp_mono (fun a' w' hk' => ?_) (kp_allocPG rfl)
   obtain ⟨v, rfl, hk, rfl, rfl⟩ := hk'
   exact ⟨_, rfl, hk, _, rfl, ⟨_, heap_alloc_new w3 _⟩, hs.kp0.size⟩
  ·rw [if_pos rfl]
   intro hs
   obtain ⟨b, hp, ⟨u, hb⟩, hge⟩ := (show PBV w2.heap.size w3 (a1.eval (.tmp 5)) from L.v 11 5)
   have h10 : a1.eval (.tmp 20) = .pointer (some ⟨g, m * 3, none⟩) := L.v 10 20
   refine Oper.wp_mono (fun a' w' hk' => ?_) (one_cell 209 rfl (by kernel_rfl) ⟨b, 0, none⟩ (.pointer (some ⟨g, m * 3, none⟩)) u rfl ((cell_of_block hb 0).trans rfl) (unfrozen_of_block hb 0) hp h10)
   obtain ⟨v, rfl, rfl⟩ := hk'
   have hb2 := block_setCell hb (i := 0) (.pointer (some ⟨g, m * 3, none⟩))
   have hkk : Keeps (fun x => x ≠ b) w3 (w3.setCell ⟨b, 0, none⟩ (.pointer (some ⟨g, m * 3, none⟩))) := (Keeps.refl _ w3).setCell (.inr fun hn => hn rfl) _
   refine ⟨v, rfl, fun x hx => ?_, ⟨(show Kp w2 w3 from hs).setCell (.inl hge) _, b, hp, hge, hb2⟩, trivial⟩
   by_cases e : x = b
   ·subst e; exact ⟨_, hb2⟩
   ·obtain ⟨y, hy⟩ := hx
    exact ⟨y, (hkk.block x e (Array.getElem?_eq_some_iff.1 hy).1).trans hy⟩
 ·intro vs w3 hs3 hlen3 hv
  match vs, hlen3 with
  | [u0, u1, u2, u3, u4, u5, u6, u7, u8, u9, u10, u11, u12], _ =>
   obtain ⟨hk3, bs, hp, hge, hbs3⟩ := hs3
   have hp : u11 = .pointer (some ⟨bs, 0, none⟩) := hp
   subst hp
   clear hv
   simp only [putAll, List.map, Act.put, List.setIfInBounds_toArray, List.set_cons_succ, List.set_cons_zero, Exit.then]
   have bl := hk3.cell HBL.out trivial
   have bo := hk3.cell bo trivial
   have c6 := hk3.cell c6 trivial
   have s0 := hk3.cell s0 trivial
   have s1 := hk3.cell s1 trivial
   have s2 := hk3.cell s2 trivial
   have HK3 := Hd hk3
   have HBS3 := Hd hbs3
   have hg3 := World.block_lt_of_cell? w3 _ s0
   have hbslt : bs < w3.heap.size := (Array.getElem?_eq_some_iff.1 hbs3).1
   clear hk3 hbs3
   go_wp2_with fail
   have hcat := HCAT.out (w3.alloc (.cells #[.slice A6 tn k6, .slice A N c] 64)) w3.heap.size (HK3.out.alloc _) (Row.fresh w3 #[.slice A6 tn k6, .slice A N c] 64 (0, 0) _ rfl trivial _ rfl)
   refine hcat.mono ?_
   clear hcat
   rintro e w4 ⟨v, rfl, hown, hk4⟩
   obtain ⟨L, hL⟩ : ∃ L, tn + N = L := ⟨_, rfl⟩
   rw [hL] at hxlen
   have hL0 : 0 < L := by omega
   have hLm : L ≤ 500 := by omega
   obtain ⟨gx, cx, rfl, hgx, hgxl⟩ := (show w4.ownsRow _ _ _ _ _ _ from hown).form (by omega)
   have hroom := own_room (show w4.ownsRow _ _ _ _ _ _ from hown)
   rw [hxlen] at hroom ⊢
   have hlc := hroom.1
   have hcm := hroom.2
   have hk34 : Kp w3 w4 := ((Keeps.refl _ w3).alloc _).trans hk4
   have bl := hk34.cell bl trivial
   have bo := hk34.cell bo trivial
   have c6 := hk34.cell c6 trivial
   have s0 := hk34.cell s0 trivial
   have s1 := hk34.cell s1 trivial
   have s2 := hk34.cell s2 trivial
   have hbs4 := (hk34.block bs trivial hbslt).trans HBS3.out
   have bsc := (cell_of_block hbs4 0).trans rfl
   have HOWN := Hd (own_row (show w4.ownsRow _ _ _ _ _ _ from hown))
   have HK4 := Hd (HK3.out.trans hk34)
   have HBS4 := Hd hbs4
   have q2 : (en : Int) / 53 = (kk : Int) := by have := HKK.out; omega
   have q2' : (en : Int).tdiv 53 = (kk : Int) := by rw [Int.tdiv_eq_ediv_of_nonneg (by omega)]; exact q2
   have hkk8 : kk ≤ 8 := by have := HKK.out; omega
   have HSUM := Hd hsum
   have hxs : w3.heap.size + 1 ≤ w4.heap.size := by have := hk4.size; simp at this; omega
   have HGXL := Hd hgxl
   have HGX := Hd (show w3.heap.size < gx from by simp at hgx; omega)
   have HEND := Hd (show ∀ w5, Kp w4 w5 → Calls Tryz.prog 136 #[.agg #[.int .i64 (sg.slot : Int), .int .i64 (sg.first : Int), .slice AE rl cE]] w5 fun e w' => e = .returned (.int .i64 (en : Int)) ∧ Kp w5 w' from fun w5 hk => by
    have := end_any w5 (.int .i64 (sg.slot : Int)) (.int .i64 (sg.first : Int)) AE cE (fun _ => True) sg.recs rfl rfl ((HRE.out.mono fun _ _ _ => trivial).keep (((HK2.out.trans HK4.out).trans hk).mono fun _ _ _ => trivial)) (by have := HLEN.out; omega)
    rw [HRL.out] at this
    rw [show endAt sg.recs rl = en by rw [← HRL.out]; exact HEN.out] at this
    exact this)
   clear hown hk4 hk34 hbs4 HCAT hroom hsum hgx hgxl
   go_wp2_with fail
   refine (HEND.out _ (Keeps.refl _ _)).mono ?_
   rintro e w5 ⟨rfl, hk5⟩
   go_wp2_with fail
   have hbk5 := heap_alloc_new w5 (.cells #[.int .i64 (kk : Int)] 3)
   refine (callsIn_wide.1 (chunk_in Fence.wide 5 trivial rfl (.slice (some ⟨gx, 0, none⟩) L cx) rfl _)).mono ?_
   rintro e w6 ⟨Bs, Bn, rfl, hBs, hBn, hsB, hnB, hk6⟩
   have hk56 : Kp w5 w6 := ((Keeps.refl _ w5).alloc _).trans hk6
   have HBK := Hd ((hk6.block w5.heap.size trivial (by simp)).trans hbk5)
   have HK6 := Hd (HK2.out.trans (HK4.out.trans (hk5.trans hk56)))
   have hz2 := HZ2.out
   have hz3 := HK3.out.size
   have hz5 := hk5.size
   have hz6 : w5.heap.size + 1 ≤ w6.heap.size := by have := hk6.size; simp at this; omega
   have hsB' : w5.heap.size + 1 ≤ Bs := by simpa using hsB
   have hnB' : w5.heap.size + 1 ≤ Bn := by simpa using hnB
   have HLT := Hd HD.out.lt
   have HAPX := Hd ha
   have HQA := Hd (ha.r q HA.out.mq)
   have HGA := Hd (show ¬ F.all g from ha.r g (HA.out.mkk g rfl))
   have hgw : g < w.heap.size := HA.out.lt g (.inl (HA.out.mkk g rfl))
   have htw : 0 < w.heap.size := World.block_lt_of_cell? w _ (hT 0 (by decide))
   have HC6 := Hd (show ∀ W, Keeps (fun b => ¬ F.M b ∧ b ≠ w5.heap.size) w6 W → W.cell? ⟨w.heap.size, 0, none⟩ = some (.pointer (some ⟨q, 0, none⟩)) ∧ W.cell? ⟨bs, 0, none⟩ = some (.pointer (some ⟨g, m * 3, none⟩)) ∧
     W.cell? ⟨g, m * 3, none⟩ = some (.int .i64 (sg.slot : Int)) ∧ W.cell? ⟨g, m * 3 + 1, none⟩ = some (.int .i64 (sg.first : Int)) ∧ W.cell? ⟨g, m * 3 + 2, none⟩ = some (.slice AE rl cE) ∧
     Row W (some ⟨gx, 0, none⟩) (fun _ => True) (bcells x) ∧ LHead W q p i n ∧ Taken W from fun W hW => by
    have k46 : Kp w4 w6 := hk5.trans hk56
    have hn : ∀ b, w.heap.size ≤ b → b < w5.heap.size → ¬ F.M b ∧ b ≠ w5.heap.size := fun b h1 h2 => ⟨fun hm => by have := HLT.out b (.inl hm); omega, by omega⟩
    have hgn : ¬ F.M g ∧ g ≠ w5.heap.size := ⟨fun hm => HGA.out (.inl hm), by omega⟩
    refine ⟨hW.cell (k46.cell bl trivial) (hn w.heap.size (Nat.le_refl _) (by omega)), hW.cell (k46.cell bsc trivial) (hn bs (by omega) (by omega)), hW.cell (k46.cell s0 trivial) hgn, hW.cell (k46.cell s1 trivial) hgn, hW.cell (k46.cell s2 trivial) hgn, ?_, HA.out.head.keep (F := fun b => b = q) (keeps_on (HK6.out.mono fun _ _ _ => trivial) hW fun b hb hq => by subst hq; exact ⟨fun hm => HQA.out (.inl hm), by omega⟩) rfl, fun k hk => ?_⟩
    ·refine ((HOWN.out.keep (w' := w6) (k46.mono fun _ _ _ => trivial)).keep (hW.mono fun b _ hb => ?_)).mono fun _ _ _ => trivial
     have h1 := HGX.out
     have h2 := HGXL.out
     have hb : b = gx := hb
     exact hn b (by omega) (by omega)
    ·exact hW.cell (HK6.out.cell (hT k hk) trivial) ⟨hTM, by show 0 ≠ w5.heap.size; omega⟩)
   have HD6 := Hd (HD.out.keep (HK6.out.mono fun _ _ _ => trivial))
   have HSAFE := Hd (show ∀ j, j < chunks L → kk + j < 8 from fun j hj => by
    have h1 := HSUM.out
    rw [HEN.out] at h1
    have h2 := HKK.out
    have h3 := HTLN.out
    rw [HEN.out] at h3
    unfold chunks at hj
    omega)
   have HTMM := Hd hTM
   have HXL := Hd hxlen
   have HBS6 := Hd hBs
   have HBN6 := Hd hBn
   have hk5' := Hd (show Kp w4 w6 from hk5.trans hk56)
   clear hbk5 hk56 hk5 hk6 hsB hnB hBs hBn bl bo c6 s0 s1 s2 bsc hT ha hTM
   go_wp2_with fail
   refine (wpIn_wide (n := 6)).1 ?_
   refine chunks_loop Bs Bn gx L cx rfl hlc (by omega) HBS6.out HBN6.out (fun pre W => DAt W p F (putsL s (i + sg.slot * 8 + kk) (sg.first * 8 + kk) x pre) ∧ Keeps (fun b => ¬ F.M b ∧ b ≠ w5.heap.size) w6 W ∧ W.heap[w5.heap.size]? = some (.cells #[.int .i64 ((kk + pre.length : Nat) : Int)] 3 (0, 0))) ?hI ?h0 ?assign ?body ?done
   case hI =>
    intro pre V V' row hs hg hr
    obtain ⟨hd, hk, hb⟩ := hs
    have hkab : Keeps (fun b => row ≠ some b) V V' := Keeps.of_grown hg fun b hb _ hn => hn hb
    refine ⟨hd.keep (hkab.mono fun b _ hb e => ?_), keeps_on hk hkab fun b hb _ e => ?_, (hkab.block _ (fun e => ?_) (Array.getElem?_eq_some_iff.1 hb).1).trans hb⟩
    ·have h1 := (hr b e).1
     have h2 := HLT.out b hb
     omega
    ·have h1 := (hr b e).1
     omega
    ·have h1 := (hr _ e).1
     omega
   case h0 => exact ⟨HD6.out, Keeps.refl _ _, by simpa using HBK.out⟩
   case assign =>
    intro l xx W K hK
    simp only [a1, chV, List.setIfInBounds_toArray, List.set_cons_succ, List.set_cons_zero] at hK ⊢
    gi_wp2
    exact hK
   case body =>
    rintro l pre xx W ⟨hd, hk, hb⟩ hlt
    simp only [a1, List.setIfInBounds_toArray, List.set_cons_succ, List.set_cons_zero]
    gi_wp2
    have hpl := putsL_len s (i + sg.slot * 8 + kk) (sg.first * 8 + kk) x pre
    obtain ⟨bl, bsc, s0, s1, s2, hrow, hL6, hT6⟩ := HC6.out W hk
    have HLW := Hd (show ∀ b V, SB W p F (putsL s (i + sg.slot * 8 + kk) (sg.first * 8 + kk) x pre) (putsL s (i + sg.slot * 8 + kk) (sg.first * 8 + kk) x (pre ++ [xx])) b V → V.cell? ⟨w.heap.size, 0, none⟩ = some (.pointer (some ⟨q, 0, none⟩)) ∧ V.cell? ⟨bs, 0, none⟩ = some (.pointer (some ⟨g, m * 3, none⟩)) ∧
      V.cell? ⟨g, m * 3, none⟩ = some (.int .i64 (sg.slot : Int)) ∧ V.cell? ⟨g, m * 3 + 1, none⟩ = some (.int .i64 (sg.first : Int)) ∧ V.cell? ⟨g, m * 3 + 2, none⟩ = some (.slice AE rl cE) ∧
      Row V (some ⟨gx, 0, none⟩) (fun _ => True) (bcells x) ∧ LHead V q p i n ∧ Taken V ∧ V.heap[w5.heap.size]? = some (.cells #[.int .i64 ((kk + pre.length : Nat) : Int)] 3 (0, 0)) from fun b V hV => by
     have hWV := hV.kp
     obtain ⟨d1, d2, d3, d4, d5, d6, d7, d8⟩ := HC6.out V (keeps_on hk hWV fun b _ hb => hb.1)
     exact ⟨d1, d2, d3, d4, d5, d6, d7, d8, (hWV.block w5.heap.size (fun hm => by have := HLT.out _ (.inl hm); omega) (Array.getElem?_eq_some_iff.1 hb).1).trans hb⟩)
    refine wpIn_region_one (V := VBy q g (m * 3) (.agg #[.int .i64 (sg.slot : Int), .int .i64 (sg.first : Int), .slice AE rl cE]) (kk + pre.length) (chV gx L xx) (txt (piece x xx))) (w0 := W) 7 (SB W p F (putsL s (i + sg.slot * 8 + kk) (sg.first * 8 + kk) x pre) (putsL s (i + sg.slot * 8 + kk) (sg.first * 8 + kk) x (pre ++ [xx]))) (fun _ _ => True) GE (by kernel_rfl) ?hnd (fun i w w' v _ hv => VBy_any i w w' v hv) (fun b w w' h hs => hs.keep h) (fun i _ w w' v _ hv => VBy_any i w w' v hv) (by kernel_rfl) (by decide) GE_is (fun i o ho hw => (all_wanted (by kernel_rfl) ho hw).elim) ⟨hd.keep ((Keeps.refl _ W).drew.mono fun _ _ _ => trivial), (Keeps.refl _ W).drew⟩ (each_of ?_) ?_
    case hnd => exact noDefer_is (by kernel_rfl)
    ·refine ⟨?_, ?_, ?_, ?_, ?_, ?_, ?_, ?_, ?_, trivial⟩ <;> intro hw a2 w7 Z
     ·rw [if_neg (by decide)]
      intro b hs _
      exact kp_lPL (HLW.out b w7 hs).1 rfl (Z.o 2)
     ·rw [if_neg (by decide)]
      intro b hs _
      exact kp_lPG (HLW.out b w7 hs).2.1 rfl (Z.o 5)
     ·rw [if_neg (by decide)]
      intro b hs _
      exact kp_nilL rfl (Z.v 1 37)
     ·rw [if_neg (by decide)]
      intro b hs _
      obtain ⟨-, -, d3, d4, d5, -⟩ := HLW.out b w7 hs
      exact kp_lG d3 d4 d5 rfl (Z.v 2 38)
     ·rw [if_neg (by decide)]
      intro b hs _
      obtain ⟨-, -, -, -, -, -, -, -, d9⟩ := HLW.out b w7 hs
      exact kp_lInt ((cell_of_block d9 0).trans rfl) rfl (Z.o 7)
     ·rw [if_neg (by decide)]
      intro b hs _
      exact kp_move rfl (Z.o 8)
     ·rw [if_neg (by decide)]
      intro b hs _
      obtain ⟨-, -, -, -, -, d6, -⟩ := HLW.out b w7 hs
      have h5 : a2.eval (.tmp 41) = chV gx L xx := Z.v 5 41
      exact kp_string rfl Tryz.underlying64 Tryz.underlying5 Tryz.underlying9 ⟨_, _, by rw [h5, piece_len, HXL.out]; rfl, piece_row d6 xx⟩
     ·rw [if_pos rfl]
      rintro hs
      obtain ⟨-, -, -, -, -, -, d7, d8, -⟩ := HLW.out false w7 hs
      have e0 : a2.eval (.tmp 36) = .pointer (some ⟨q, 0, none⟩) := Z.v 0 36
      have e1 : a2.eval (.tmp 39) = .agg #[.int .i64 (sg.slot : Int), .int .i64 (sg.first : Int), .slice AE rl cE] := Z.v 3 39
      have e2 : a2.eval (.tmp 40) = .int .i64 ((kk + pre.length : Nat) : Int) := Z.v 4 40
      have e3 : a2.eval (.tmp 42) = .string (txt (piece x xx)) := Z.v 6 42
      have hf : a2.eval (.func 131) = .func (.func 131) #[] #[] := rfl
      have h8 := HSAFE.out pre.length hlt
      have hlay := llay_own w7 d8 q p i n d7 F (putsL s (i + sg.slot * 8 + kk) (sg.first * 8 + kk) x pre) hs.1 HQA.out HTMM.out sg.slot sg.first (kk + pre.length) (.slice AE rl cE) rfl (piece x xx) (by rw [piece_len]; unfold chLen; omega) hi (by omega) h8 (by omega) (by rw [hpl.1]; omega) (by rw [hpl.2]; omega)
      have hsn : putsL s (i + sg.slot * 8 + kk) (sg.first * 8 + kk) x (pre ++ [xx]) = (putsL s (i + sg.slot * 8 + kk) (sg.first * 8 + kk) x pre).write (i + sg.slot * 8 + (kk + pre.length)) (encL (sg.first * 8 + (kk + pre.length)) (piece x xx)) := by rw [putsL_snoc, show i + sg.slot * 8 + kk + pre.length = i + sg.slot * 8 + (kk + pre.length) by omega, show sg.first * 8 + kk + pre.length = sg.first * 8 + (kk + pre.length) by omega]
      refine one_lay (X := fun w' v => True ∧ SB W p F (putsL s (i + sg.slot * 8 + kk) (sg.first * 8 + kk) x pre) (putsL s (i + sg.slot * 8 + kk) (sg.first * 8 + kk) x (pre ++ [xx])) true w' ∧ IsV (.int .i64 0) w' v) (f := 131) (args := #[.pointer (some ⟨q, 0, none⟩), .agg #[.int .i64 (sg.slot : Int), .int .i64 (sg.first : Int), .slice AE rl cE], .int .i64 ((kk + pre.length : Nat) : Int), .string (txt (piece x xx))]) ?_ hlay ?_
      ·clear hs d7 d8 hlay Z hsn
       generalize a2.eval = ρ at e0 e1 e2 e3 hf ⊢
       unfold execOp
       go_simp
      ·rintro e' w' ⟨rfl, hd', hst⟩
       exact ⟨_, rfl, trivial, ⟨by rw [hsn]; exact hd', keeps_on (hs.2.mono fun _ _ _ => trivial) hst.keeps fun b _ hb => hb⟩, rfl⟩
     ·rw [if_neg (by decide)]
      intro b hs _
      exact kp_assign rfl (Z.v 7 43)
    ·intro vs2 w8 hs8 hlen8 hv8
     match vs2, hlen8 with
     | [y0, y1, y2, y3, y4, y5, y6, y7, y8], _ =>
      have e8 : y8 = .int .i64 0 := hv8 8 9 (by kernel_rfl)
      subst e8
      clear hv8
      simp only [putAll, List.map, Act.put, List.setIfInBounds_toArray, List.set_cons_succ, List.set_cons_zero, Exit.then]
      obtain ⟨d1, d2, d3, d4, d5, d6, d7, d8, d9⟩ := HLW.out true w8 hs8
      have hkc := (cell_of_block d9 0).trans rfl
      have hkf := unfrozen_of_block d9 0
      have hb9 := block_setCell d9 (i := 0) (.int .i64 ((kk + pre.length + 1 : Nat) : Int))
      have h8 := HSAFE.out pre.length hlt
      have hk89 : Keeps (fun b => b ≠ w5.heap.size) w8 (w8.setCell ⟨w5.heap.size, 0, none⟩ (.int .i64 ((kk + pre.length + 1 : Nat) : Int))) := (Keeps.refl _ w8).setCell (.inr fun hn => hn rfl) _
      have hWV := SB.kp hs8
      have hlast : KeepsFrom w6.heap.size W (w8.setCell ⟨w5.heap.size, 0, none⟩ (.int .i64 ((kk + pre.length + 1 : Nat) : Int))) ∧ KpB Bs Bn W (w8.setCell ⟨w5.heap.size, 0, none⟩ (.int .i64 ((kk + pre.length + 1 : Nat) : Int))) ∧
        (DAt (w8.setCell ⟨w5.heap.size, 0, none⟩ (.int .i64 ((kk + pre.length + 1 : Nat) : Int))) p F (putsL s (i + sg.slot * 8 + kk) (sg.first * 8 + kk) x (pre ++ [xx])) ∧ Keeps (fun b => ¬ F.M b ∧ b ≠ w5.heap.size) w6 (w8.setCell ⟨w5.heap.size, 0, none⟩ (.int .i64 ((kk + pre.length + 1 : Nat) : Int))) ∧ (w8.setCell ⟨w5.heap.size, 0, none⟩ (.int .i64 ((kk + pre.length + 1 : Nat) : Int))).heap[w5.heap.size]? = some (.cells #[.int .i64 ((kk + (pre ++ [xx]).length : Nat) : Int)] 3 (0, 0))) := by
       have hall : Keeps (fun b => ¬ F.M b ∧ b ≠ w5.heap.size) W (w8.setCell ⟨w5.heap.size, 0, none⟩ (.int .i64 ((kk + pre.length + 1 : Nat) : Int))) := keeps_on (hWV.mono fun _ _ hb => hb.1) hk89 fun _ _ hb => hb.2
       refine ⟨⟨hall.size, fun j o hj ho _ => ?_⟩, hall.mono fun b _ hb => ?_, hs8.1.keep (hk89.mono fun b _ hb e => ?_), keeps_on hk hall fun _ _ hb => hb, ?_⟩
       ·exact (hall.block j ⟨fun hm => by have := HLT.out j (.inl hm); omega, by omega⟩ (Array.getElem?_eq_some_iff.1 ho).1).trans ho
       ·rcases hb with rfl | rfl
        ·exact ⟨fun hm => by have := HLT.out _ (.inl hm); omega, by omega⟩
        ·exact ⟨fun hm => by have := HLT.out _ (.inl hm); omega, by omega⟩
       ·have := HLT.out b hb; omega
       ·rw [List.length_append, List.length_singleton]; exact hb9
      have HLAST := Hd hlast
      have e1 : (((kk + pre.length : Nat) : Int) + 1) = ((kk + pre.length + 1 : Nat) : Int) := by omega
      have HE1 := Hd e1
      obtain ⟨kj, hkj⟩ : ∃ kj, kk + pre.length = kj := ⟨_, rfl⟩
      have HKJ := Hd hkj
      rw [hkj] at hkc h8
      clear hlast hWV hk89 hb9 d1 d2 d3 d4 d5 d6 d7 d8 d9 hs8 hk hb hd e1 hkj hrow hL6 hT6
      gi_wp2
      rw [show ((kj : Int) + 1) = ((kk + pre.length + 1 : Nat) : Int) by have := HKJ.out; omega]
      exact HLAST.out
   case done =>
    rintro D W hD ⟨hd, hk, -⟩ hdef
    obtain ⟨bl, bsc, s0, s1, s2, hrow, hL6, -⟩ := HC6.out W hk
    have hn : ∀ b, w.heap.size ≤ b → b < w5.heap.size → ¬ F.M b ∧ b ≠ w5.heap.size := fun b h1 h2 => ⟨fun hm => by have := HLT.out b (.inl hm); omega, by omega⟩
    have HKW := Hd (show Keeps (fun b => ¬ F.M b ∧ b ≠ w5.heap.size) w W from keeps_on (HK6.out.mono fun _ _ _ => trivial) hk fun _ _ hb => hb)
    have HAW := Hd (HA.out.keep (HKW.out.mono fun b hb hm => ⟨fun hf => HAPX.out.l b hf hm, by omega⟩))
    obtain ⟨z, hz⟩ : ∃ z, L / 53 * 53 = z := ⟨_, rfl⟩
    have hzL : z ≤ L := by omega
    have hzr : z = L - L % 53 := by omega
    have HZ := Hd hz
    have HDW := Hd hd
    have HROWW := Hd hrow
    have HBLW := Hd bl
    have HBSW := Hd bsc
    have HBRW := Hd ((hk.block (w.heap.size + 1) (hn (w.heap.size + 1) (by omega) (by omega)) (by omega)).trans (((HK4.out.trans hk5'.out).block (w.heap.size + 1) trivial (by omega)).trans HBR2.out))
    have HDEF := Hd hdef
    have HKWk := Hd hk
    clear hd hk hrow bl bsc s0 s1 s2 hL6 hdef hz
    go_wp2_with fail
    have hbW := HAW.out.blk
    have hqW : q < W.heap.size := (Array.getElem?_eq_some_iff.1 hbW).1
    have hnq : ∀ b, w.heap.size ≤ b → b ≠ q := fun b h e => by have := HA.out.lt q (.inl HA.out.mq); omega
    refine wp_region_one (V := VT q gx L cx z (L % 53)) (w0 := W) 11 (ST W q (cutV gx L cx z)) (fun _ _ => True) GE (by kernel_rfl) (fun i w w' v _ hv => VT_any i w w' v hv) (fun b w w' h hs => hs.keep h) (fun i _ w w' v _ hv => VT_any i w w' v hv) (by kernel_rfl) (by decide) GE_is (fun i o ho hw => (all_wanted (by kernel_rfl) ho hw).elim) (Keeps.refl _ W).drew (each_of ?_) ?_
    ·refine ⟨?_, ?_, ?_, ?_, ?_, ?_, ?_, ?_, ?_, ?_, ?_, ?_, trivial⟩ <;> intro hw a2 w7 Z
     ·rw [if_neg (by decide)]
      intro b hs _
      exact kp_lPL (hs.kp.cell HBLW.out (hnq _ (Nat.le_refl _))) rfl (Z.o 2)
     ·rw [if_neg (by decide)]
      intro b hs _
      exact kp_move rfl (Z.o 6)
     ·rw [if_neg (by decide)]
      intro b hs _
      exact kp_move rfl (Z.o 6)
     ·rw [if_neg (by decide)]
      intro b hs _
      exact kp_lenB rfl (Z.v 2 51)
     ·rw [if_neg (by decide)]
      intro b hs _
      exact kp_move rfl (Z.o 6)
     ·rw [if_neg (by decide)]
      intro b hs _
      exact kp_lenB rfl (Z.v 4 53)
     ·rw [if_neg (by decide)]
      intro b hs _
      exact kp_rem53 (by omega) rfl rfl (Z.v 5 54)
     ·rw [if_neg (by decide)]
      intro b hs _
      exact kp_subN (by omega) (Nat.mod_le _ _) hzr rfl (Z.v 3 52) (Z.v 6 55)
     ·rw [if_neg (by decide)]
      intro b hs _
      exact kp_cutT hzL hlc hcm rfl (Z.v 1 50) (Z.v 7 56)
     ·rw [if_neg (by decide)]
      intro b hs _
      exact kp_nilL rfl (Z.v 0 49)
     ·rw [if_neg (by decide)]
      intro b hs _
      exact kp_fL6 rfl (Z.v 9 58)
     ·rw [if_pos rfl]
      intro hs
      have hs : Kp W w7 := hs
      have hb7 := HAW.out.blk.keep hs trivial
      refine Oper.wp_mono (fun a' w' hk' => ?_) (one_cell 64 rfl (by kernel_rfl) ⟨q, 6, none⟩ (cutV gx L cx z) _ rfl ((cell_of_block hb7 6).trans rfl) (unfrozen_of_block hb7 6) (Z.v 10 59) (Z.v 8 57))
      obtain ⟨v, rfl, rfl⟩ := hk'
      exact ⟨v, rfl, trivial, ⟨w7, hs, Keeps.refl _ _⟩, trivial⟩
    ·intro vs3 w8 hs8 hlen8 hv8
     match vs3, hlen8 with
     | [y0, y1, y2, y3, y4, y5, y6, y7, y8, y9, y10, y11], _ =>
      clear hv8
      simp only [putAll, List.map, Act.put, List.setIfInBounds_toArray, List.set_cons_succ, List.set_cons_zero, Exit.then]
      obtain ⟨W1, hW1, hW8⟩ := hs8
      have hb8 := (hW8.block q trivial (by simp; exact Nat.lt_of_lt_of_le hqW hW1.size)).trans (block_setCell (HAW.out.blk.keep hW1 trivial) (i := 6) (cutV gx L cx z))
      have HK8 := Hd (show Keeps (fun b => b ≠ q) W w8 from ((hW1.mono fun _ _ _ => trivial).setCell (.inr fun hn => hn rfl) _).trans (hW8.mono fun _ _ _ => trivial))
      have HB8 := Hd hb8
      have bl := HK8.out.cell HBLW.out (hnq _ (Nat.le_refl _))
      have c5 := (cell_of_block hb8 5).trans rfl
      have f5 := unfrozen_of_block hb8 5
      have HWR := Hd (show IntKind.i64.wrap ((left : Int) - (N : Int)) = ((left - N : Nat) : Int) from by rw [IntKind.wrap_i64]; omega)
      clear hW1 hW8 hb8
      go_wp2_with fail
      rw [show ((left : Int) - (N : Int)) = ((left - N : Nat) : Int) by omega]
      obtain ⟨wN, hwN⟩ : ∃ wN, w8.setCell ⟨q, 5, none⟩ (.int .i64 ((left - N : Nat) : Int)) = wN := ⟨_, rfl⟩
      have hbN : LBlk wN q p i n (.slice (some ⟨g, 0, none⟩) (ks ++ [sg]).length k3') sl (left - N) (cutV gx L cx z) nx := by rw [← hwN]; exact block_setCell HB8.out (i := 5) (.int .i64 ((left - N : Nat) : Int))
      have hk8N : Keeps (fun b => b ≠ q) w8 wN := by rw [← hwN]; exact (Keeps.refl _ w8).setCell (.inr fun hn => hn rfl) _
      have HKN := Hd (HK8.out.trans hk8N)
      have HBN := Hd hbN
      rw [hwN]
      clear hwN hbN hk8N bl c5 f5 HWR
      have hlenE := HA.out.ends.len
      obtain ⟨Es0, EL, hEs⟩ : ∃ Es0 EL, Es = Es0 ++ [EL] := ⟨Es.dropLast, Es.getLast (fun e => by rw [e] at hlenE; simp at hlenE), (List.dropLast_concat_getLast _).symm⟩
      subst hEs
      have hel : Es0.length = ks.length := by simp at hlenE; exact hlenE
      have hEL : EL = .slice AE rl cE := by
       have h1 := segC_at (ks ++ [sg]) (Es0 ++ [EL]) hlenE ks.length 2 (by simp) (by decide)
       have h2 : ((ks ++ [sg])[ks.length]'(by simp)).cells ((Es0 ++ [EL])[ks.length]'(by simp [hel])) = sg.cells EL := by rw [List.getElem_concat_length rfl, List.getElem_concat_length hel.symm]
       rw [h2] at h1
       have h3 := HA.out.row.cells (g := g) rfl _ EL (by rw [h1]; rfl)
       rw [WideShapes.add_plain, Nat.zero_add, HM.out] at h3
       have h4 := HS2.out
       rw [h4] at h3
       injection h3 with h3
       exact h3.symm
      subst hEL
      have hEmem : (Value.slice AE rl cE) ∈ Es0 ++ [.slice AE rl cE] := by simp
      have hEout := HA.out.ends.out _ hEmem
      have hEg : ∀ b, (Value.slice AE rl cE).ownBlock = some b → b ≠ g ∧ b ≠ q := fun b e => ⟨fun e' => hEout b e (.inr (by rw [e']; rfl)), fun e' => hEout b e (.inl e')⟩
      have hgq : g ≠ q := HA.out.kq g rfl
      have hownE : wN.ownsRow 0 3 1 (.slice AE rl cE) rl (endsC sg.recs) := by
       have h1 := HAW.out.ends.own ks.length (by simp)
       rw [List.getElem_concat_length rfl, List.getElem_concat_length hel.symm, HRL.out] at h1
       exact HKN.out.own h1 fun b hb => (hEg b hb).2
      have HOWNE := Hd hownE
      have hElt : ∀ b, (Value.slice AE rl cE).ownBlock = some b → b < wN.heap.size := fun b e => (hownE.lt b e).2
      have HEG := Hd hEg
      have HELT := Hd hElt
      obtain ⟨-, -, s0, s1, s2, -⟩ := HC6.out W HKWk.out
      have HS0 := Hd (HKN.out.cell s0 hgq)
      have HS1 := Hd (HKN.out.cell s1 hgq)
      have HS2N := Hd (HKN.out.cell s2 hgq)
      have hbsq : bs ≠ q := hnq bs (by omega)
      have HBSN := Hd (HKN.out.cell HBSW.out hbsq)
      have hgN : g < wN.heap.size := World.block_lt_of_cell? wN _ HS0.out
      have hbsE : (Value.slice AE rl cE).ownBlock ≠ some bs := fun e => by
       have := HA.out.lt bs (.inl (HA.out.me _ hEmem bs e))
       omega
      have hbsg : bs ≠ g := by omega
      have HENDN := Hd (show ∀ V, Kp wN V → Calls Tryz.prog 136 #[.agg #[.int .i64 (sg.slot : Int), .int .i64 (sg.first : Int), .slice AE rl cE]] V fun e w' => e = .returned (.int .i64 (en : Int)) ∧ Kp V w' from fun V hV => by
       obtain ⟨A9, c9, e9, -, hr9⟩ := own_slice HOWNE.out
       injection e9 with e91 e92 e93
       subst e91 e93
       have := end_any V (.int .i64 (sg.slot : Int)) (.int .i64 (sg.first : Int)) AE cE (fun _ => True) sg.recs rfl rfl ((hr9.mono fun _ _ _ => trivial).keep (hV.mono fun _ _ _ => trivial)) (by have := HLEN.out; omega)
       rw [HRL.out] at this
       rw [show endAt sg.recs rl = en by rw [← HRL.out]; exact HEN.out] at this
       exact this)
      have hrl400 : rl ≤ 400 := by have := HLEN.out; rw [HRL.out] at this; exact this
      have hen424 : en + N ≤ 1000 := by have := HSUM.out; rw [HEN.out] at this; omega
      clear s0 s1 s2 hownE hElt
      refine wp_region_two (V := VW wN.heap.size g (m * 3) (.agg #[.int .i64 (sg.slot : Int), .int .i64 (sg.first : Int), .slice AE rl cE]) (.slice AE rl cE) (.slice A N c) en N (sg.recs ++ [r])) (w0 := wN) 13 16 (SW wN g (m * 3) (.slice AE rl cE) (sg.recs ++ [r])) (fun a b => Keeps (fun x => (Value.slice AE rl cE).ownBlock ≠ some x) a b) (fun a b => Keeps (fun x => x ≠ g) a b) GE (by kernel_rfl) (fun i w w' v h hv => VW_k (fun _ => True) i (fun _ _ _ _ => trivial) (fun _ _ _ => trivial) w w' v h hv) (fun b c w w' h hs => hs.keep h)
       (fun i hi w w' v h hv => VW_k _ i (fun _ B h1 _ => h1) (fun e => absurd e hi) w w' v h hv) (fun i _ w w' v h hv => VW_k _ i (fun _ B _ h2 => h2) (fun _ b hb => hb) w w' v h hv) (by kernel_rfl) (by kernel_rfl) (by decide) (by decide) GE_is (fun i o ho hw => (all_wanted (by kernel_rfl) ho hw).elim) (Keeps.refl _ wN).drew (each_of ?_) ?_
      ·refine ⟨?_, ?_, ?_, ?_, ?_, ?_, ?_, ?_, ?_, ?_, ?_, ?_, ?_, ?_, ?_, ?_, ?_, trivial⟩ <;> intro hw a2 w7 Z
       ·rw [if_neg (by decide), if_neg (by decide)]
        intro b c hs _ _
        exact kp_lPG (hs.kp.cell HBSN.out ⟨hbsE, hbsg⟩) rfl (Z.o 5)
       ·rw [if_neg (by decide), if_neg (by decide)]
        intro b c hs _ _
        exact kp_lPG (hs.kp.cell HBSN.out ⟨hbsE, hbsg⟩) rfl (Z.o 5)
       ·rw [if_neg (by decide), if_neg (by decide)]
        intro b c hs _ _
        exact kp_nilL rfl (Z.v 1 70)
       ·rw [if_neg (by decide), if_neg (by decide)]
        intro b c hs _ _
        exact kp_fG2at rfl (Z.v 2 71)
       ·rw [if_neg (by decide), if_neg (by decide)]
        intro b c hs _ hb
        obtain rfl := hb [] (by kernel_rfl)
        exact kp_lI (hs.kp0.cell HS2N.out trivial) rfl (Z.v 3 72)
       ·rw [if_neg (by decide), if_neg (by decide)]
        intro b c hs _ _
        exact kp_lPG (hs.kp.cell HBSN.out ⟨hbsE, hbsg⟩) rfl (Z.o 5)
       ·rw [if_neg (by decide), if_neg (by decide)]
        intro b c hs _ _
        exact kp_nilL rfl (Z.v 5 74)
       ·rw [if_neg (by decide), if_neg (by decide)]
        intro b c hs _ hb
        obtain rfl := hb [12, 11, 8] (by kernel_rfl)
        exact kp_lG (hs.kp0.cell HS0.out trivial) (hs.kp0.cell HS1.out trivial) (hs.kp0.cell HS2N.out trivial) rfl (Z.v 6 75)
       ·rw [if_neg (by decide), if_neg (by decide)]
        intro b c hs _ hb
        obtain rfl := hb [12, 11] (by kernel_rfl)
        have e0 : a2.eval (.tmp 76) = .agg #[.int .i64 (sg.slot : Int), .int .i64 (sg.first : Int), .slice AE rl cE] := Z.v 7 76
        have hf : a2.eval (.func 136) = .func (.func 136) #[] #[] := rfl
        refine kp_enter (f := 136) (args := #[.agg #[.int .i64 (sg.slot : Int), .int .i64 (sg.first : Int), .slice AE rl cE]]) ?_ (HENDN.out w7 hs.kp0) ?_
        ·clear Z hs
         generalize a2.eval = ρ at e0 hf ⊢
         unfold execOp
         go_simp
        ·rintro e w' ⟨rfl, hk⟩
         exact ⟨_, rfl, hk, rfl⟩
       ·rw [if_neg (by decide), if_neg (by decide)]
        intro b c hs _ _
        exact kp_move rfl (Z.o 1)
       ·rw [if_neg (by decide), if_neg (by decide)]
        intro b c hs _ _
        exact kp_lenB rfl (Z.v 9 78)
       ·rw [if_neg (by decide), if_neg (by decide)]
        intro b c hs _ _
        exact kp_addN (by omega) rfl (Z.v 8 77) (Z.v 10 79)
       ·rw [if_neg (by decide), if_neg (by decide)]
        intro b c hs _ hb
        obtain rfl := hb [] (by kernel_rfl)
        refine Oper.wp_mono (fun a' w' hk' => ?_) (kp_oneI rfl (Z.v 11 80))
        obtain ⟨v, rfl, hk, rfl, rfl⟩ := hk'
        have h1 := hs.kp0.size
        exact ⟨_, rfl, hk, _, rfl, fun e => by have := HELT.out _ e; omega, by omega, Row.fresh (F := fun b => b = w7.heap.size) w7 #[.int .i64 ((en + N : Nat) : Int)] 3 (0, 0) _ rfl rfl _ rfl⟩
       ·rw [if_pos rfl]
        intro hs
        have hs : Kp wN w7 := hs
        have e4 : a2.eval (.tmp 73) = .slice AE rl cE := Z.v 4 73
        obtain ⟨B, e12, h1, h2, hr⟩ := (show LitV (.slice AE rl cE) g ((en + N : Nat) : Int) w7 (a2.eval (.tmp 81)) from Z.v 12 81)
        have hsrc := hr.src (P := Tryz.prog) (c := 1) Tryz.underlying66 (by simp [Value.oneCell'])
        refine int_elem.wp_append (.tmp 73) (.tmp 81) 66 rfl e4 (hs.own HOWNE.out fun _ _ => trivial) e12 hsrc (by unfold maxLen; simp; omega) (by simp; omega) (Nat.zero_le _) ?_
        intro v' w' ho hg hb
        have hgr : Keeps (fun x => (Value.slice AE rl cE).ownBlock ≠ some x) w7 w' := Keeps.of_grown hg fun x hx _ hn => hn hx
        refine ⟨v', rfl, hgr, (hs.mono fun _ _ _ => trivial).trans hgr, ?_, ?_, ?_⟩
        ·rw [endsC_snoc, List.length_append, HRL.out]
         rw [show endAt sg.recs rl = en by rw [← HRL.out]; exact HEN.out, HN.out]
         exact ho
        ·exact hb.imp id fun e => ⟨_, e, hs.size⟩
        ·intro e
         rcases hb with h | h
         ·rw [h] at e; exact (HEG.out g e).1 rfl
         ·rw [h] at e; injection e with e; have := hs.size; omega
       ·rw [if_neg (by decide), if_neg (by decide)]
        intro b c hs _ _
        exact kp_nilL rfl (Z.v 0 69)
       ·rw [if_neg (by decide), if_neg (by decide)]
        intro b c hs _ _
        exact kp_fG2at rfl (Z.v 14 83)
       ·rw [if_neg (by decide), if_pos rfl]
        intro hs
        have hs : Keeps (fun x => (Value.slice AE rl cE).ownBlock ≠ some x) wN w7 := hs
        have hap : AppV wN.heap.size g (.slice AE rl cE) (sg.recs ++ [r]) w7 (a2.eval (.tmp 82)) := Z.v 13 82
        have hgE : (Value.slice AE rl cE).ownBlock ≠ some g := fun e => (HEG.out g e).1 rfl
        have h7 := hs.block g hgE hgN
        have hc7 := hs.cell HS2N.out hgE
        obtain ⟨A9, c9, e9⟩ := own_form hap.1
        have hfz : w7.frozen? ⟨g, m * 3 + 2, none⟩ = false := by
         rcases HAW.out.row.2 with ⟨e, -⟩ | ⟨g', cap', cur, e, -, hg', -⟩
         ·cases e
         ·injection e with e; injection e with e; injection e with e
          subst e
          exact unfrozen_of_block (h7.trans ((HKN.out.block g hgq (Array.getElem?_eq_some_iff.1 hg').1).trans hg')) (m * 3 + 2)
        refine Oper.wp_mono (fun a' w' hk' => ?_) (one_cell 66 rfl (by kernel_rfl) ⟨g, m * 3 + 2, none⟩ (a2.eval (.tmp 82)) _ (by rw [e9]; rfl) hc7 hfz (Z.v 15 84) rfl)
        obtain ⟨v, rfl, rfl⟩ := hk'
        exact ⟨v, rfl, (Keeps.refl _ w7).setCell (.inr fun hn => hn rfl) _, ⟨w7, _, hs, hap, Keeps.refl _ _⟩, trivial⟩
      ·intro vs4 wF hsF hlenF hvF
       match vs4, hlenF with
       | [x0, x1, x2, x3, x4, x5, x6, x7, x8, x9, x10, x11, x12, x13, x14, x15, x16], _ =>
        clear hvF
        simp only [putAll, List.map, Act.put, List.setIfInBounds_toArray, List.set_cons_succ, List.set_cons_zero, Exit.then]
        obtain ⟨W1, v, hk1, hap, hkF⟩ := hsF
        have hbrE : ∀ b, w.heap.size ≤ b → (Value.slice AE rl cE).ownBlock ≠ some b := fun b hb e => by
         have := HA.out.lt b (.inl (HA.out.me _ hEmem b e))
         omega
        have hkg : Keeps (fun b => b ≠ g) W1 (W1.setCell ⟨g, m * 3 + 2, none⟩ v) := (Keeps.refl _ W1).setCell (.inr fun hn => hn rfl) _
        have hNF : Keeps (fun b => (Value.slice AE rl cE).ownBlock ≠ some b ∧ b ≠ g) wN wF := keeps_on (keeps_on (hk1.mono fun _ _ hb => hb.1) hkg fun _ _ hb => hb.2) hkF fun _ _ _ => trivial
        have hWF : Keeps (fun b => b ≠ q ∧ (Value.slice AE rl cE).ownBlock ≠ some b ∧ b ≠ g) W wF := keeps_on (HKN.out.mono fun _ _ hb => hb.1) hNF fun _ _ hb => hb.2
        have hbrb := (hWF.block (w.heap.size + 1) ⟨hnq (w.heap.size + 1) (by omega), hbrE (w.heap.size + 1) (by omega), by show w.heap.size + 1 ≠ g; omega⟩ (Array.getElem?_eq_some_iff.1 HBRW.out).1).trans HBRW.out
        have hbrc := (cell_of_block hbrb 0).trans rfl
        have HBRB := Hd hbrb
        have hDW : D < W.heap.size := (Array.getElem?_eq_some_iff.1 HDEF.out).1
        have hDF := (hWF.block D ⟨hnq D (by omega), hbrE D (by omega), by omega⟩ hDW).trans HDEF.out
        have hbrf := unfrozen_of_block hbrb 0
        have HWF := Hd hWF
        have HKF := Hd hkF
        have HK1 := Hd hk1
        have HAP := Hd hap
        have HDF := Hd hDF
        clear hkg hNF hWF hkF hk1 hap hDF hbrb
        go_wp2_with fail
        have hDbr : D ≠ w.heap.size + 1 := by omega
        have hks : Keeps (fun b => b ≠ w.heap.size + 1) wF (wF.setCell ⟨w.heap.size + 1, 0, none⟩ (.int .i64 0)) := (Keeps.refl _ wF).setCell (.inr fun hn => hn rfl) _
        have hDS := (hks.block D hDbr (Array.getElem?_eq_some_iff.1 HDF.out).1).trans HDF.out
        have hkp : Keeps (fun b => b ≠ D) (wF.setCell ⟨w.heap.size + 1, 0, none⟩ (.int .i64 0)) ((wF.setCell ⟨w.heap.size + 1, 0, none⟩ (.int .i64 0)).putObj D (.deferred none)) := Keeps.of_grown (grownBy_putObj' _ D _) fun b hb _ hn => hn (by injection hb with hb; exact hb.symm)
        have hkZ : Keeps (fun b => ¬ (b = w.heap.size + 1 ∨ b = D)) wF ((wF.setCell ⟨w.heap.size + 1, 0, none⟩ (.int .i64 0)).putObj D (.deferred none)) := keeps_on (hks.mono fun b _ hb e => hb (.inl e)) hkp fun b _ hb e => hb (.inr e)
        have hcz := hkp.cell (p := ⟨w.heap.size + 1, 0, none⟩) ((cell_of_block (block_setCell HBRB.out (i := 0) (.int .i64 0)) 0).trans rfl) (Ne.symm hDbr)
        refine ⟨by simp, .inl ⟨_, _, rfl, run_takeDeferred hDS, ?_⟩⟩
        generalize (wF.setCell ⟨w.heap.size + 1, 0, none⟩ (.int .i64 0)).putObj D (.deferred none) = wZ at hkZ hcz ⊢
        refine ⟨.int .i64 0, by simp [results, Tryz.results106, go_sem, hcz], rfl, ?_⟩
        clear hks hDS hkp hcz
        obtain rfl := HM.out
        have hFM : ∀ b, F.all b → b ≠ q ∧ b ≠ g ∧ (Value.slice AE rl cE).ownBlock ≠ some b := fun b hb => ⟨fun e => HQA.out (by rw [← e]; exact hb), fun e => HGA.out (by rw [← e]; exact hb), fun e => HAPX.out.r b (HA.out.me _ hEmem b e) hb⟩
        have hWZ : Keeps (fun b => b ≠ q ∧ (Value.slice AE rl cE).ownBlock ≠ some b ∧ b ≠ g ∧ ¬ (b = w.heap.size + 1 ∨ b = D)) W wZ := keeps_on (HWF.out.mono fun _ _ hb => ⟨hb.1, hb.2.1, hb.2.2.1⟩) hkZ fun _ _ hb => hb.2.2.2
        have hkE : Keeps (fun b => ¬ (b = w.heap.size + 1 ∨ b = D)) (W1.setCell ⟨g, ks.length * 3 + 2, none⟩ v) wZ := keeps_on (HKF.out.mono fun _ _ _ => trivial) hkZ fun _ _ hb => hb
        have hszN : W.heap.size ≤ wN.heap.size := HKN.out.size
        have hLW := HAW.out
        have hBN := HBN.out
        rw [List.length_append, List.length_singleton] at hLW hBN
        have hgxq : ∀ b, b = gx → b ≠ q ∧ (Value.slice AE rl cE).ownBlock ≠ some b ∧ b ≠ g ∧ ¬ (b = w.heap.size + 1 ∨ b = D) := fun b hb => by
         have h1 := HGX.out
         have h2 := HGXL.out
         subst hb
         exact ⟨hnq b (by omega), hbrE b (by omega), by omega, by omega⟩
        have hrowZ : Row wZ (some ⟨gx, 0, none⟩) (fun b => b = gx) (bcells x) := by
         have h46 : Kp w4 w6 := hk5'.out
         exact ((HOWN.out.keep (h46.mono fun _ _ _ => trivial)).keep (HKWk.out.mono fun b _ hb => hn b (by have := HGX.out; have hb : b = gx := hb; omega) (by have := HGXL.out; have hb : b = gx := hb; omega))).keep (hWZ.mono fun b _ hb => hgxq b hb)
        have hxl := HXL.out
        have hrowT := hrowZ.cut (k := z) (cap := cx) (by rw [bcells_len, hxl]; exact hzL) (by rw [bcells_len, hxl]; exact hlc)
        have hdl : (x.drop z).length = L - z := by rw [List.length_drop, hxl]
        have hsizeW : gx < W.heap.size := by have := HGXL.out; have := HKWk.out.size; omega
        have hlog := log_extended r hLW HKN.out hBN HK1.out HAP.out.1 HAP.out.2.1 hkE (Z := fun b => b = w.heap.size + 1 ∨ b = D) (fun b hb => by
          have := HA.out.lt b (.inl hb)
          rintro (e | e) <;> omega) (fun b hb => by
          have h1 := (Array.getElem?_eq_some_iff.1 HBRW.out).1
          rcases hb with e | e <;> omega) (fun b => b = gx) (x.drop z) (fun b hb => by
          have := hWZ.size
          omega) (fun b hb => by omega) (fun b hb hm => by
          have := HA.out.lt b (.inl hm)
          have := HGX.out
          omega) ⟨_, _, by rw [hdl]; rfl, by rw [hdl]; omega, by omega, by
           have e : (if cx = z then (some ⟨gx, 0, none⟩ : Option Addr) else Option.map (fun x : Addr => x.add z) (some ⟨gx, 0, none⟩)) = (if cx = z then some ⟨gx, 0, none⟩ else some ⟨gx, z, none⟩) := by
            split
            ·rfl
            ·simp [WideShapes.add_plain]
           rw [e] at hrowT
           rw [bcells, List.map_drop]
           exact hrowT⟩
        have hD' : DAt wZ p F (s.puts (i + sg.slot * 8 + kk) (sg.first * 8 + kk) x (chunks L)) := by
         rw [← putsL_range]
         exact HDW.out.keep (hWZ.mono fun b _ hb => ⟨(hFM b hb).1, (hFM b hb).2.2, (hFM b hb).2.1, fun e => by have := HLT.out b hb; omega⟩)
        rw [show ks.length + 1 = (ks ++ [sg]).length by simp] at hlog
        have hnew : ∀ b, v.ownBlock = some b → Fs.M b ∨ w.heap.size ≤ b := fun b e => by
         rcases HAP.out.2.1 with h | ⟨b', h, hle⟩
         ·exact .inl (HA.out.me _ hEmem b (by rw [← h]; exact e))
         ·rw [h] at e; injection e with e
          have h1 := HKW.out.size
          exact .inr (by omega)
        have hM : ∀ b, hasB q (.slice (some ⟨g, 0, none⟩) (ks ++ [sg]).length k3') (Es0 ++ [v]) b → Fs.M b ∨ w.heap.size ≤ b := fun b hb => by
         rcases hb with rfl | hb | ⟨X, hX, hb⟩
         ·exact .inl HA.out.mq
         ·exact .inl (HA.out.mkk b hb)
         ·rcases List.mem_append.1 hX with hX | hX
          ·exact .inl (HA.out.me X (List.mem_append_left _ hX) b hb)
          ·rw [List.mem_singleton.1 hX] at hb
           exact hnew b hb
        have hgxw : w.heap.size ≤ gx := by have := HGX.out; omega
        refine ⟨F, _, _, _, _, ?_, ?_, hlog, ⟨⟨?_, ?_⟩, ?_, ?_, ?_, ?_, ?_⟩⟩
        ·rw [HEN.out, HKK.out, hxl]; exact hD'
        ·rw [hxl, HZ.out]
        ·intro b hb hx
         have h1 := HLT.out b (.inl hb)
         rcases hx with hx | hx
         ·rcases hM b hx with h | h
          ·exact HAPX.out.l b hb (.inl h)
          ·omega
         ·have hx : b = gx := hx
          omega
        ·intro b hb hf
         have h1 := HLT.out b hf
         rcases hM b hb with h | h
         ·exact HAPX.out.r b h hf
         ·omega
        ·refine keeps_on (HKW.out.mono fun b hl hb => ⟨hb.1, by omega⟩) hWZ fun b hl hb => ⟨fun e => hb.2 (by rw [e]; exact HA.out.mq), fun e => hb.2 (HA.out.me _ hEmem b e), fun e => hb.2 (by rw [e]; exact HA.out.mkk g rfl), ?_⟩
         rintro (e | e) <;> omega
        ·exact fun b hb => .inl hb
        ·exact fun b hb => .inl (.inr hb)
        ·exact hM
        ·intro b hb
         have hb : b = gx := hb
         exact .inr (by omega)
end Go.Proofs.YticophaepapjoaaGreatDoor
