/-
  JnAdds, JnAddAll, JnSince, JnNo: texts of mine, joined.
-/
import Derived.Test.YticophaepapjoaaGreatDoorAllB35
import Derived.Test.YticophaepapjoaaGreatDoorAllB31
import Derived.Lib.MinMax
open Go.Lib renaming hid → Hd
set_option maxRecDepth 100000
set_option maxHeartbeats 8000000
namespace Go.Proofs.YticophaepapjoaaGreatDoor
open Go Go.RowKit Go.Joins
theorem not_chained {ops : Array Oper} {k i : Nat} {js : List Nat} {C : Prop} (h : chained ops k i js = false) (t : chained ops k i js = true) : C := by rw [h] at t; cases t
def jnext (st : JSt) (k : ByteArray) (b : Nat) : JSt := ⟨st.place, st.segs, st.keys ++ [k], b, st.kept, st.age + 1⟩
def JAddPost (S : Slog2) (w : World) (p q : Nat) (F Fs : Foot) (s : SDev) (st : JSt) (k : ByteArray) (e : Ending) (w' : World) : Prop :=
 e = .returned (.int .i64 0) ∧ ∃ (F' Fs' : Foot) (s' : SDev) (b : Nat), DAt w' p F' s' ∧ jrep S w' p q Fs' (jnext st k b) s' ∧ st.base ≤ b ∧ JGo w w' F F' Fs Fs' s s' st 1
theorem jadd1 (S : Slog2) (W w : World) (hT : S.T W) (p q : Nat) (F Fs : Foot) (s : SDev) (st : JSt) (h : Jb S W w p q F Fs s st) (hage : st.age + 1 ≤ 30000) (hcl : s.calls ≤ 540000000000) (k : ByteArray) (hk : keyOk k) :
  Calls Tryz.prog 60 #[.pointer (some ⟨q, 0, none⟩), .string k] w (JAddPost S w p q F Fs s st k) := by
 obtain ⟨lq, Fl, v0, lst, rfl, hc, hm⟩ := h.r
 obtain ⟨A0, c0, rfl, hlc, hcm⟩ := hc.form
 have hok := S.wf hc.l
 have hgl := hok.gone
 have hlen := jkept_len lst
 have hml := hm.age
 have hmb := markB_len (n := lst.hist.length + 1) (by omega) hk
 obtain ⟨m, hmm⟩ : ∃ m, lst.hist.length = m := ⟨_, rfl⟩
 obtain ⟨n0, hn0⟩ : ∃ n0, (jkept lst).length = n0 := ⟨_, rfl⟩
 rw [hn0] at hlc
 have haw : Apart F Fl := ⟨fun b hb hf => h.ap.l b hb (jfoot_all.2 (.inr (.inl hf))), fun b hb hf => h.ap.r b (.inr (.inl hb)) hf⟩
 have hgl' : ∀ b, Fl.all b → W.heap.size ≤ b := fun b hb => h.gs b (jfoot_all.2 (.inr (.inl hb)))
 have hroom : lst.place + 8 * lst.segs ≤ s.now.length := by rw [hm.place, hm.segs]; exact h.room
 have HBLK := Hd (show ∀ w', Kp w w' → JBlk w' q lq (lst.gone : Int) (.slice A0 n0 c0) from fun w' hk => by
  have := hc.blk.keep hk trivial
  rwa [hn0] at this)
 have HSEQ := Hd (show ∀ w', Kp w w' → Calls Tryz.prog 24 #[.pointer (some ⟨q, 0, none⟩)] w' fun e w2 => e = .returned (.int .i64 (m : Int)) ∧ Kp w' w2 from fun w' hk => by
  refine (jseq w' q lq lst.gone n0 A0 c0 (HBLK.out w' hk) (by omega) (m : Int) (by omega)).mono ?_
  rintro e w2 ⟨rfl, z, rfl⟩
  exact ⟨rfl, (Keeps.refl _ _).drewN z⟩)
 have HENC := Hd (show ∀ w', Kp w w' → Calls Tryz.prog 87 #[.agg #[.int .i64 ((m : Int) + 1), .string k]] w' fun e w2 => ∃ v, e = .returned v ∧ Kp w' w2 ∧ OwnB w2 w.heap.size v (markB (m + 1) k) from fun w' hk2 => by
  refine (jencode w' (m + 1) k (by omega) hk _ (by omega)).mono ?_
  rintro e w2 ⟨v, rfl, ho, hk3⟩
  exact ⟨v, rfl, hk3, ownsRow_le ho hk2.size⟩)
 have HAPP := Hd (show ∀ (wc : World) (v : Value), Kp w wc → OwnB wc w.heap.size v (markB (m + 1) k) → Calls Tryz.prog 71 #[.pointer (some ⟨lq, 0, none⟩), v] wc fun e w' => (∃ x : Nat, e = .returned (.tuple #[.int .i64 (x : Int), .int .i64 0]) ∧ JApp S w p lq F Fl s lst (markB (m + 1) k) x w') ∧ Keeps (fun b => w.heap.size ≤ b) wc w' from fun wc v hkc ho =>
  japp_call S W w wc hT p lq F Fl s lst h.d hc.l hc.on haw h.kp h.gf hgl' hroom hcl (by have := hm.next; have := hm.old; omega) hkc v _ ho (by rw [← hmm]; exact hmb.1) (by rw [← hmm]; have := hmb.2; omega))
 have HMID := Hd (show ∀ (w1 : World) (x : Nat), JApp S w p lq F Fl s lst (markB (m + 1) k) x w1 → ∃ (F' Fl' : Foot) (s' : SDev) (lst' : LSt), JMid S w w1 p q lq F Fl F' Fl' (lst.gone : Int) (.slice A0 n0 c0) (.slice A0 n0 c0) (jkept lst) lst' s' ∧ JM (jnext st k lst'.gone) lst' ∧ lst.gone ≤ lst'.gone ∧ (lst'.hist.drop lst.gone).map (·.pos) = jkept lst ++ [x] ∧ s'.now.length = s.now.length ∧ (∀ i, ¬ st.has i → s'.now.getD i [] = s.now.getD i []) ∧ s'.calls ≤ s.calls + 1000 ∧ lst'.gone ≤ 40000 ∧ lst'.first < 1099511627777 from fun w1 x hj => by
  obtain ⟨F', Fl', s', g, f, n, a1, a2, a3, a4, a5, a6, a7, a8, a9, a10, a11, a12, a13⟩ := hj
  have hok' := S.wf a2
  have hc' := hc
  rw [hn0] at hc'
  refine ⟨F', Fl', s', ⟨p, lst.place, lst.segs, lst.hist ++ [⟨x, markB (m + 1) k, 0⟩], g, f, n⟩, JMid.of hc' (by have := h.ap; rwa [hn0] at this) a1 a2 rfl a8 a9 a10 a11 a12 a13, ?_, a3, ?_, a5, fun i hi => a6 i fun hh => hi ((hm.has i).1 hh), a7, ?_, ?_⟩
  ·rw [← hmm]
   rw [← hmm] at hok'
   exact hm.add hk a4 hage hok'
  ·show ((lst.hist ++ [(⟨x, markB (m + 1) k, 0⟩ : LRec)]).drop lst.gone).map LRec.pos = _
   rw [List.drop_append_of_le_length hgl, List.map_append]
   rfl
  ·have h1 := hok'.gone
   simp only [List.length_append, List.length_cons, List.length_nil] at h1 ⊢
   omega
  ·have h1 := (S.past a2).1
   have h2 := hok'.small
   simp only at h1 h2 ⊢
   omega)
 have hqlt : q < w.heap.size := hc.blk.lt
 have hsb := hm.base
 have hgb : lst.gone + n0 ≤ 30000 := by omega
 have hmb30 : m ≤ 30000 := by omega
 clear hc hm hok hgl hlen hml hmb haw hgl' hroom h
 generalize hL : markB (m + 1) k = l at HENC HAPP HMID
 clear hL hmm hk
 go_enter Tryz.func60, Tryz.ntmps60
 go_wp2_with fail
 refine wp_region_past (V := VA S w p q lq F Fl s lst k l m) (w0 := w) 10 (StA S w p lq F Fl s lst l) (fun a b => Keeps (fun b => w.heap.size ≤ b) a b) GM (by kernel_rfl) (fun i w w' v h hv => VA_kp i w w' v h hv) (fun b w w' h hs => StA_kp b w w' h hs) ?_ (by kernel_rfl) (by decide) GM_is (fun i o ho hw => (all_wanted (by kernel_rfl) ho hw).elim) ((Keeps.refl _ w).drew) (each_of ?_) ?_
 ·intro i hne hch wa wb v hR hv
  match i, hv with
  | 0, hv => exact hv
  | 1, hv => exact hv
  | 2, hv => exact hv
  | 3, hv => exact hv
  | 4, hv => exact hv
  | 5, hv => exact hv
  | 6, hv => exact hv
  | 7, hv => exact hv
  | 8, hv => exact hv
  | 9, hv => 
   obtain ⟨A, c, rfl, -, -⟩ := own_slice hv
   exact hR.own hv fun b hb => by
    rcases hv.2 with ⟨e, _⟩ | ⟨g, cap, cur, e, hbase, _⟩
    ·injection e with e; subst e; cases hb
    ·injection e with e; subst e; injection hb with hb; subst hb; exact hbase
  | 10, _ => exact absurd rfl hne
  | 11, _ => exact not_chained (hch []) (by kernel_rfl)
  | 12, _ => exact not_chained (hch [11]) (by kernel_rfl)
  | 13, hv => exact hv
  | 14, _ => exact not_chained (hch [12, 11]) (by kernel_rfl)
  | 15, hv => exact hv
  | n + 16, _ => trivial
 ·refine ⟨?_, ?_, ?_, ?_, ?_, ?_, ?_, ?_, ?_, ?_, ?_, ?_, ?_, ?_, ?_, ?_, trivial⟩ <;> intro hw a1 w3 L
  ·rw [if_neg (by decide)]; intro b hs _ h2
   exact kp_move rfl (L.o 0)
  ·rw [if_neg (by decide)]; intro b hs _ h2
   exact kp_nilL rfl (L.v 0 10)
  ·rw [if_neg (by decide)]; intro b hs _ h2
   exact kp_fJ0 rfl (L.v 1 11)
  ·rw [if_neg (by decide)]; intro b hs _ h2
   obtain rfl : b = false := h2 [] (by kernel_rfl)
   exact kp_lPL (HBLK.out w3 hs).c0 rfl (L.v 2 12)
  ·rw [if_neg (by decide)]; intro b hs _ h2
   exact kp_move rfl (L.o 0)
  ·rw [if_neg (by decide)]; intro b hs _ h2
   obtain rfl : b = false := h2 [9, 8, 6] (by kernel_rfl)
   have e0 : a1.eval (.tmp 14) = .pointer (some ⟨q, 0, none⟩) := L.v 4 14
   have hf : a1.eval (.func 24) = .func (.func 24) #[] #[] := rfl
   refine kp_enter (f := 24) (args := #[.pointer (some ⟨q, 0, none⟩)]) ?_ (HSEQ.out w3 hs) ?_
   ·clear L
    generalize a1.eval = ρ at e0 hf ⊢
    unfold execOp
    go_simp
   ·rintro e w' ⟨rfl, hk⟩
    exact ⟨_, rfl, hk, rfl⟩
  ·rw [if_neg (by decide)]; intro b hs _ h2
   exact kp_succ (k := m) (by omega) rfl rfl (L.v 5 15) rfl
  ·rw [if_neg (by decide)]; intro b hs _ h2
   exact kp_move rfl (L.o 1)
  ·rw [if_neg (by decide)]; intro b hs _ h2
   exact kp_bMark rfl (L.v 6 16) (L.v 7 17)
  ·rw [if_neg (by decide)]; intro b hs _ h2
   obtain rfl : b = false := h2 [] (by kernel_rfl)
   have e0 : a1.eval (.tmp 18) = .agg #[.int .i64 ((m : Int) + 1), .string k] := L.v 8 18
   have hf : a1.eval (.func 87) = .func (.func 87) #[] #[] := rfl
   refine kp_enter (f := 87) (args := #[.agg #[.int .i64 ((m : Int) + 1), .string k]]) ?_ (HENC.out w3 hs) ?_
   ·clear L
    generalize a1.eval = ρ at e0 hf ⊢
    unfold execOp
    go_simp
   ·rintro e w' ⟨v, rfl, hk, hv⟩
    exact ⟨v, rfl, hk, hv⟩
  ·rw [if_pos rfl]; intro hs
   have e0 : a1.eval (.tmp 13) = .pointer (some ⟨lq, 0, none⟩) := L.v 3 13
   have e1 : OwnB w3 w.heap.size (a1.eval (.tmp 19)) l := L.v 9 19
   have hf : a1.eval (.func 71) = .func (.func 71) #[] #[] := rfl
   refine jn_enter (f := 71) (args := #[.pointer (some ⟨lq, 0, none⟩), a1.eval (.tmp 19)]) ?_ (HAPP.out w3 _ hs e1) ?_
   ·clear L e1 hs
    generalize a1.eval = ρ at e0 hf ⊢
    unfold execOp
    go_simp
   ·rintro e w' ⟨⟨x, rfl, hj⟩, hk⟩
    exact ⟨_, rfl, hk, ⟨x, hj⟩, x, rfl, hj⟩
  ·rw [if_neg (by decide)]; intro b hs _ h2
   obtain ⟨x, e0, hj⟩ := (show ∃ x : Nat, a1.eval (.tmp 20) = .tuple #[.int .i64 (x : Int), .int .i64 0] ∧ JApp S w p lq F Fl s lst l x w3 from L.v 10 20)
   refine kp_yield (v := .tuple #[.int .i64 (x : Int), .int .i64 0]) ?_ (Keeps.refl _ _) ⟨x, rfl, hj⟩
   clear L
   generalize a1.eval = ρ at e0
   unfold execOp
   go_simp
  ·rw [if_neg (by decide)]; intro b hs _ h2
   obtain ⟨x, e0, hj⟩ := (show ∃ x : Nat, a1.eval (.tmp 9) = .tuple #[.int .i64 (x : Int), .int .i64 0] ∧ JApp S w p lq F Fl s lst l x w3 from L.v 11 9)
   exact kp_ext0 (V := fun w v => ∃ x : Nat, v = .int .i64 (x : Int) ∧ JApp S _ p lq F Fl s lst l x w) rfl e0 ⟨x, rfl, hj⟩
  ·rw [if_neg (by decide)]; intro b hs _ h2
   obtain ⟨x, e0, hj⟩ := (show ∃ x : Nat, a1.eval (.tmp 9) = .tuple #[.int .i64 (x : Int), .int .i64 0] ∧ JApp S w p lq F Fl s lst l x w3 from L.v 11 9)
   exact kp_ext1 (V := IsV (.int .i64 0)) rfl e0 rfl
  ·rw [if_neg (by decide)]; intro b hs _ h2
   exact kp_asJ (V := fun w v => ∃ x : Nat, v = .int .i64 (x : Int) ∧ JApp S _ p lq F Fl s lst l x w) rfl (L.v 12 21)
  ·rw [if_neg (by decide)]; intro b hs _ h2
   exact kp_assign rfl (L.v 13 22)
 ·intro vs w4 hs4 hlen4 hv
  match vs, hlen4 with
  | [v0, v1, v2, v3, v4, v5, v6, v7, v8, v9, v10, v11, v12, v13, v14, v15], _ =>
   obtain ⟨x, hx14, hj⟩ := (show ∃ x : Nat, v14 = .int .i64 (x : Int) ∧ JApp S w p lq F Fl s lst l x w4 from hv 14 5 (by kernel_rfl))
   have hx15 : v15 = .int .i64 0 := hv 15 6 (by kernel_rfl)
   obtain ⟨F', Fl', s', lst', hmid, hjm, hgg, hpos, hln, hou, hca, hg4, hf4⟩ := HMID.out w4 x hj
   obtain ⟨a, hcut, hal, hsorted, hbelow, habove⟩ := jkept_cut hmid.c.l hgg
   rw [hpos] at hcut
   have hal2 : lst.gone + a.length = lst'.gone := by omega
   obtain ⟨kk, hkk⟩ : ∃ kk, a.length = kk := ⟨_, rfl⟩
   obtain ⟨nb, hnb⟩ : ∃ nb, (jkept lst').length = nb := ⟨_, rfl⟩
   obtain ⟨fi, hfi⟩ : ∃ fi, lst'.first = fi := ⟨_, rfl⟩
   have hsum : n0 + 1 = kk + nb := by
    have := congrArg List.length hcut
    simp only [List.length_append, List.length_cons, List.length_nil] at this
    omega
   subst hx14 hx15
   have c2 : w4.cell? ⟨q, 2, none⟩ = some (.slice A0 n0 c0) := hmid.c.blk.c2
   have hrow : w4.ownsRow 0 2 1 (.slice A0 n0 c0) n0 (posC (jkept lst)) := by have := hmid.c.row; rwa [hn0] at this
   have HROW := Hd hrow
   have HM4 := Hd hmid
   have HJM := Hd hjm
   have HGG := Hd (show st.base ≤ lst'.gone from by rw [hsb]; exact hgg)
   have HREST := Hd (show s'.now.length = s.now.length ∧ (∀ i, ¬ st.has i → s'.now.getD i [] = s.now.getD i []) ∧ s'.calls ≤ s.calls + 1000 * 1 from ⟨hln, hou, by omega⟩)
   have HCUT := Hd hcut
   have HSB := Hd (show (a ++ jkept lst').Pairwise (· < ·) ∧ (∀ y ∈ a, y < fi) ∧ ∀ y ∈ jkept lst', fi ≤ y from ⟨hsorted, by rw [← hfi]; exact hbelow, by rw [← hfi]; exact habove⟩)
   have HKK := Hd hkk
   have HNB := Hd hnb
   have HN0 := Hd hn0
   have HFI := Hd hfi
   have HSUM := Hd hsum
   have HGN := Hd (show lst.gone + kk = lst'.gone from by omega)
   have hkb : kk ≤ 40000 := by omega
   have hnbb : nb ≤ 40000 := by omega
   clear hv hs4 hj hmid hjm hgg hpos hln hou hca hg4 hf4 hcut hal hal2 hsorted hbelow habove hkk hnb hfi hsum hrow hsb hn0 HMID HAPP HENC HSEQ HBLK hT
   simp only [putAll, List.map, Act.put, List.setIfInBounds_toArray, List.set_cons_succ, List.set_cons_zero, Exit.then]
   go_wp2_with (at_builtin; refine j64_elem.list_append rfl (.tmp 30) (.tmp 32) _ rfl rfl (HROW.out.alloc _) rfl (src_one Tryz.underlying106 _ _ _ ?c1 _ ?c2 _) ?c3 ?c4 ?c5 ?_)
   case c1 => rfl
   case c2 => rfl
   case c3 => unfold maxLen; omega
   case c4 => omega
   case c5 => exact Nat.zero_le _
   intro v' w5 hown hg hb
   rw [posC_snoc] at hown
   have hg2 := grown_of_alloc hg
   have hk5 : Keeps (fun b => (Value.slice A0 n0 c0).ownBlock ≠ some b) w4 w5 := Keeps.of_grown hg2 fun b e _ hn => hn e
   have blk5 := HM4.out.c.blk.keep hk5 HM4.out.c.qv
   have d2 := blk5.c2
   have df := blk5.f 2
   have hM6 := HM4.out.put (v' := v') (xs' := jkept lst ++ [x]) hg2 (by rw [List.length_append, HN0.out]; exact hown) (by
    rcases hb with hb | hb
    ·exact .inl hb
    ·exact .inr ⟨_, hb, by simp⟩)
   obtain ⟨g, c1, rfl, -, -⟩ := hown.form (Nat.succ_pos _)
   have hen : (jkept lst ++ [x]).length = n0 + 1 := by rw [List.length_append, HN0.out]; rfl
   have hrow6 := hM6.c.row
   rw [hen, HCUT.out] at hrow6
   have HBLK6 := Hd (show ∀ w', Kp (w5.setCell ⟨q, 2, none⟩ (.slice (some ⟨g, 0, none⟩) (n0 + 1) c1)) w' → JBlk w' q lq (lst.gone : Int) (.slice (some ⟨g, 0, none⟩) (n0 + 1) c1) from fun w' hk => hM6.c.blk.keep hk trivial)
   have HFIRST := Hd (show ∀ w', Kp (w5.setCell ⟨q, 2, none⟩ (.slice (some ⟨g, 0, none⟩) (n0 + 1) c1)) w' → Calls Tryz.prog 70 #[.pointer (some ⟨lq, 0, none⟩)] w' fun e w2 => e = .returned (.int .i64 (fi : Int)) ∧ Kp w' w2 from fun w' hk => by
    refine (S.first2 w' lq _ _ _ (S.keep hM6.c.l (hk.mono fun _ _ _ => trivial))).mono ?_
    rintro e w2 ⟨rfl, rfl⟩
    exact ⟨by rw [HFI.out], Keeps.refl _ _⟩)
   have HSRCH := Hd (show ∀ w', Kp (w5.setCell ⟨q, 2, none⟩ (.slice (some ⟨g, 0, none⟩) (n0 + 1) c1)) w' → Calls Tryz.prog 88 #[.slice (some ⟨g, 0, none⟩) (n0 + 1) c1, .int .i64 (fi : Int)] w' fun e w2 => (∃ t, e = .returned (.tuple #[.int .i64 (kk : Int), .bool t])) ∧ Kp w' w2 from fun w' hk => by
    refine (jsearch_any w' g c1 (n0 + 1) fi kk a (jkept lst') (by rw [List.length_append, HKK.out, HNB.out]; exact HSUM.out) (hk.own hrow6 fun _ _ => trivial) HSB.out.1 (by omega) HSB.out.2.1 HSB.out.2.2 HKK.out.symm).mono ?_
    rintro e w2 ⟨h, z, rfl⟩
    exact ⟨h, (Keeps.refl _ _).drewN z⟩)
   have HDEL := Hd (show ∀ w', Kp (w5.setCell ⟨q, 2, none⟩ (.slice (some ⟨g, 0, none⟩) (n0 + 1) c1)) w' → Calls Tryz.prog 89 #[.slice (some ⟨g, 0, none⟩) (n0 + 1) c1, .int .i64 0, .int .i64 (kk : Int)] w' fun e w2 => e = .returned (.slice (some ⟨g, 0, none⟩) nb c1) ∧
     w2.ownsRow 0 2 1 (.slice (some ⟨g, 0, none⟩) nb c1) nb (posC (jkept lst')) ∧ w'.grownBy w2 (some g) from fun w' hk =>
    jdelete_any w' g c1 (n0 + 1) kk nb a (jkept lst') (by rw [List.length_append, HKK.out, HNB.out]; exact HSUM.out) (hk.own hrow6 fun _ _ => trivial) HKK.out.symm HNB.out.symm)
   have HM6 := Hd hM6
   clear hown hg hg2 hb hk5 blk5 hM6 HROW HM4 c2 hrow6 HCUT HSB
   go_wp2_with fail
   generalize w5.setCell ⟨q, 2, none⟩ (.slice (some ⟨g, 0, none⟩) (n0 + 1) c1) = w6 at HM6 HBLK6 HFIRST HSRCH HDEL ⊢
   clear d2 df
   refine wp_region_guard (R := Kp) (V := VS q lq (.slice (some ⟨g, 0, none⟩) (n0 + 1) c1) fi kk) (w0 := w6) GM (by kernel_rfl) (fun w => Keeps.refl _ w) (fun _ _ _ h k => h.trans k) (fun i w w' v _ hv => VS_any i w w' v hv) (by kernel_rfl) GM_is (fun i o ho hw => (all_wanted (by kernel_rfl) ho hw).elim) ((Keeps.refl _ w6).drew) (each_of ?_) ?_
   ·refine ⟨?_, ?_, ?_, ?_, ?_, ?_, ?_, ?_, ?_, ?_, ?_, ?_, ?_, ?_, ?_, trivial⟩ <;> intro hw a1 w7 L
    ·exact kp_move rfl (L.o 0)
    ·exact kp_nilL rfl (L.v 0 37)
    ·exact kp_fJ2 rfl (L.v 1 38)
    ·exact kp_lPos (HBLK6.out w7 L.rel).c2 rfl (L.v 2 39)
    ·exact kp_move rfl (L.o 0)
    ·exact kp_nilL rfl (L.v 4 41)
    ·exact kp_fJ0 rfl (L.v 5 42)
    ·exact kp_lPL (HBLK6.out w7 L.rel).c0 rfl (L.v 6 43)
    ·have e0 : a1.eval (.tmp 44) = .pointer (some ⟨lq, 0, none⟩) := L.v 7 44
     have hf : a1.eval (.func 70) = .func (.func 70) #[] #[] := rfl
     refine kp_enter (f := 70) (args := #[.pointer (some ⟨lq, 0, none⟩)]) ?_ (HFIRST.out w7 L.rel) ?_
     ·clear L
      generalize a1.eval = ρ at e0 hf ⊢
      unfold execOp
      go_simp
     ·rintro e w' ⟨rfl, hk⟩
      exact ⟨_, rfl, hk, rfl⟩
    ·have e0 : a1.eval (.tmp 40) = .slice (some ⟨g, 0, none⟩) (n0 + 1) c1 := L.v 3 40
     have e1 : a1.eval (.tmp 45) = .int .i64 (fi : Int) := L.v 8 45
     have hf : a1.eval (.func 88) = .func (.func 88) #[] #[] := rfl
     refine kp_enter (f := 88) (args := #[.slice (some ⟨g, 0, none⟩) (n0 + 1) c1, .int .i64 (fi : Int)]) ?_ (HSRCH.out w7 L.rel) ?_
     ·clear L
      generalize a1.eval = ρ at e0 e1 hf ⊢
      unfold execOp
      go_simp
     ·rintro e w' ⟨⟨t, rfl⟩, hk⟩
      exact ⟨_, rfl, hk, t, rfl⟩
    ·obtain ⟨t, e0⟩ := (show ∃ t, a1.eval (.tmp 46) = .tuple #[.int .i64 (kk : Int), .bool t] from L.v 9 46)
     refine kp_yield (v := .tuple #[.int .i64 (kk : Int), .bool t]) ?_ (Keeps.refl _ _) ⟨t, rfl⟩
     clear L
     generalize a1.eval = ρ at e0
     unfold execOp
     go_simp
    ·obtain ⟨t, e0⟩ := (show ∃ t, a1.eval (.tmp 36) = .tuple #[.int .i64 (kk : Int), .bool t] from L.v 10 36)
     exact kp_ext0 (V := IsV (.int .i64 (kk : Int))) rfl e0 rfl
    ·obtain ⟨t, e0⟩ := (show ∃ t, a1.eval (.tmp 36) = .tuple #[.int .i64 (kk : Int), .bool t] from L.v 10 36)
     exact kp_ext1 (V := fun _ u => ∃ t, u = .bool t) rfl e0 ⟨t, rfl⟩
    ·exact kp_assign rfl (L.v 11 47)
    ·exact kp_asJ (V := fun _ u => ∃ t, u = .bool t) rfl (L.v 12 48)
   ·intro vs w7 hk7 hlen7 hv
    match vs, hlen7 with
    | [u0, u1, u2, u3, u4, u5, u6, u7, u8, u9, u10, u11, u12, u13, u14], _ =>
     have hx13 : u13 = .int .i64 (kk : Int) := hv 13 7 (by kernel_rfl)
     obtain ⟨t, hx14⟩ := (show ∃ t, u14 = .bool t from hv 14 8 (by kernel_rfl))
     subst hx13 hx14
     have HM7 := Hd (HM6.out.kp hk7)
     have HD7 := Hd (HDEL.out w7 hk7)
     have d2 := (HBLK6.out w7 hk7).c2
     clear hv hk7 HM6 HDEL HSRCH HFIRST HBLK6
     simp only [putAll, List.map, Act.put, List.setIfInBounds_toArray, List.set_cons_succ, List.set_cons_zero, Exit.then]
     go_wp2_with fail
     refine (show Calls _ _ _ _ _ from HD7.out).mono ?_
     rintro e w8 ⟨rfl, hr8, hg8⟩
     have hk8 : Keeps (fun b => b ≠ g) w7 w8 := Keeps.of_grown hg8 fun b e _ hn => by injection e with e; exact hn e.symm
     have hqg : q ≠ g := fun e => HM7.out.c.qv (by rw [e]; rfl)
     have blk8 := HM7.out.c.blk.keep hk8 hqg
     have e2 := blk8.c2
     have df := blk8.f 2
     have hM8 := HM7.out.put (v' := .slice (some ⟨g, 0, none⟩) nb c1) (xs' := jkept lst') hg8 (by rw [HNB.out]; exact hr8) (.inl rfl)
     have b1 := hM8.c.blk.c1
     have f1 := hM8.c.blk.f 1
     have HM8 := Hd hM8
     clear hr8 hg8 hk8 hqg blk8 hM8 HD7 HM7 d2
     go_wp2_with fail
     have hM9 := HM8.out.base ((lst.gone : Int) + (kk : Int))
     go_ret
     have e : (lst.gone : Int) + (kk : Int) = (lst'.gone : Int) := by have := HGN.out; omega
     rw [e] at hM9 ⊢
     refine ⟨rfl, F', jfoot q Fl' (.slice (some ⟨g, 0, none⟩) nb c1), s', lst'.gone, hM9.d, ⟨lq, Fl', _, lst', rfl, hM9.c, HJM.out⟩, HGG.out, ?_⟩
     rw [HN0.out]
     exact hM9.go HREST.out.1 HREST.out.2.1 HREST.out.2.2
theorem JGo.kp {w w1 w2 : World} {F F' Fs Fs' : Foot} {s s' : SDev} {st : JSt} {n : Nat} (h : JGo w w1 F F' Fs Fs' s s' st n) (hk : Kp w1 w2) : JGo w w2 F F' Fs Fs' s s' st n :=
 { h with k := h.k.trans (hk.mono fun _ _ _ => trivial) }
theorem jseq_is (S : Slog2) (w : World) (p q : Nat) (Fs : Foot) (s : SDev) (st : JSt) (h : jrep S w p q Fs st s) :
  Calls Tryz.prog 24 #[.pointer (some ⟨q, 0, none⟩)] w fun e w' => e = .returned (.int .i64 (st.keys.length : Int)) ∧ Kp w w' := by
 obtain ⟨lq, Fl, v, lst, rfl, hc, hm⟩ := h
 obtain ⟨A, c, rfl, -, -⟩ := hc.form
 have h1 := jkept_len lst
 have h2 := (S.wf hc.l).gone
 have h3 := hm.len
 have h4 := hm.age
 have h5 := hm.old
 refine (jseq w q lq lst.gone (jkept lst).length A c hc.blk (by omega) (st.keys.length : Int) (by omega)).mono ?_
 rintro e w' ⟨rfl, z, rfl⟩
 exact ⟨rfl, (Keeps.refl _ _).drewN z⟩
theorem jbase_is (S : Slog2) (w : World) (p q : Nat) (Fs : Foot) (s : SDev) (st : JSt) (h : jrep S w p q Fs st s) :
  Calls Tryz.prog 31 #[.pointer (some ⟨q, 0, none⟩)] w fun e w' => e = .returned (.int .i64 (st.base : Int)) ∧ Kp w w' := by
 obtain ⟨lq, Fl, v, lst, rfl, hc, hm⟩ := h
 rw [hm.base]
 exact jbase w q lq lst.gone v hc.blk
theorem jflushed (S : Slog2) (W w : World) (hT : S.T W) (p q lq : Nat) (F Fl : Foot) (v : Value) (s : SDev) (st : JSt) (lst : LSt) (hd : DAt w p F s) (hc : JAt S w p q lq Fl (lst.gone : Int) v (jkept lst) lst s) (hm : JM st lst) (hap : Apart F (jfoot q Fl v))
  (hkp : Kp W w) (gf : ∀ b, F.all b → W.heap.size ≤ b) (gs : ∀ b, (jfoot q Fl v).all b → W.heap.size ≤ b) (room : st.place + 8 * st.segs ≤ s.now.length) (hcl : s.calls ≤ 549755813888) (hage : st.age + 1 ≤ 30000) :
  Calls Tryz.prog 46 #[.pointer (some ⟨lq, 0, none⟩)] w fun e w' => e = .returned (.int .i64 0) ∧ ∃ (F' Fs' : Foot) (rows : List (List UInt8)) (k : Nat), DAt w' p F' (SDev.still rows k) ∧
   jrep S w' p q Fs' ⟨st.place, st.segs, st.keys, st.base, st.kept, st.age + 1⟩ (SDev.still rows k) ∧ jdisk S ⟨st.place, st.segs, st.keys, st.base, st.kept, st.age + 1⟩ rows ∧ JGo w w' F F' (jfoot q Fl v) Fs' s (SDev.still rows k) st 1 := by
 have haw : Apart F Fl := ⟨fun b hb hf => hap.l b hb (jfoot_all.2 (.inr (.inl hf))), fun b hb hf => hap.r b (.inr (.inl hb)) hf⟩
 refine (S.flush W w p lq F Fl s lst hd hc.l hc.on haw hT hkp gf (fun b hb => gs b (jfoot_all.2 (.inr (.inl hb)))) (by rw [hm.place, hm.segs]; exact room) hcl).mono ?_
 rintro e w' ⟨rfl, F', Fl', rows, k, hd', hrep', hdk, hlen, hout, hcalls, hap', hk', f1, f2, f3, f4⟩
 have hmid := JMid.of hc hap hd' hrep' hc.on hap' hk' f1 f2 f3 f4
 have hm' := hm.older (n := st.age + 1) (Nat.le_succ _) hage
 exact ⟨rfl, F', jfoot q Fl' v, rows, k, hd', ⟨lq, Fl', v, lst, rfl, hmid.c, hm'⟩, ⟨lst, hdk, hm'⟩, hmid.go hlen (fun i hi => hout i fun hh => hi ((hm.has i).1 hh)) (by show k ≤ s.calls + 1000 * 1; omega)⟩
theorem jleast {P : Nat → Prop} (n : Nat) (h : P n) : ∃ m, P m ∧ ∀ i, i < m → ¬ P i := by
 induction n using Nat.strongRecOn with
 | _ n ih =>
  by_cases hh : ∃ i, i < n ∧ P i
  ·obtain ⟨i, hi, hp⟩ := hh
   exact ih i hi hp
  ·exact ⟨n, h, fun i hi hp => hh ⟨i, hi, hp⟩⟩
def jpart (st : JSt) (ks : List ByteArray) (j b : Nat) : JSt := ⟨st.place, st.segs, st.keys ++ ks.take j, b, st.kept, st.age + j⟩
def JAddsPost (S : Slog2) (w : World) (p q : Nat) (F Fs : Foot) (s : SDev) (st : JSt) (ks : List ByteArray) (e : Ending) (w' : World) : Prop :=
 e = .returned (.tuple #[.int .i64 ((st.keys.length + ks.length : Nat) : Int), .int .i64 0]) ∧ ∃ (F' Fs' : Foot) (rows : List (List UInt8)) (k b : Nat), DAt w' p F' (SDev.still rows k) ∧ jrep S w' p q Fs' (jadd st ks b) (SDev.still rows k) ∧ jdisk S (jadd st ks b) rows ∧ st.base ≤ b ∧ JGo w w' F F' Fs Fs' s (SDev.still rows k) st (ks.length + 1)
structure JStep (S : Slog2) (W w wr : World) (p q : Nat) (F Fs : Foot) (s : SDev) (st : JSt) (ks : List ByteArray) (j : Nat) (F' Fs' : Foot) (s' : SDev) (b : Nat) : Prop where
 jb : Jb S W wr p q F' Fs' s' (jpart st ks j b)
 go : JGo w wr F F' Fs Fs' s s' st j
 le : st.base ≤ b
section
variable {S : Slog2} {W w wr w2 : World} {p q : Nat} {F Fs F' Fs' : Foot} {s s' : SDev} {st : JSt} {ks : List ByteArray} {j b : Nat}
theorem JStep.start (h : Jb S W w p q F Fs s st) (hk : Kp w wr) : JStep S W w wr p q F Fs s st ks 0 F Fs s st.base := by
 refine ⟨?_, JGo.still h hk, Nat.le_refl _⟩
 have := h.keep hk
 unfold jpart
 simpa using this
theorem JStep.row (h : JStep S W w wr p q F Fs s st ks j F' Fs' s' b) {A : Option Addr} {xs : List Value} (hr : Row w A (fun b => ¬ F.all b ∧ ¬ Fs.all b) xs) : Row wr A (fun _ => True) xs :=
 ((hr.mono fun b _ hb => (⟨fun hm => hb.1 (.inl hm), fun hm => hb.2 (.inl hm)⟩ : ¬ F.M b ∧ ¬ Fs.M b)).keep h.go.k).mono fun _ _ _ => trivial
theorem JStep.one (hT : S.T W) (h : JStep S W w wr p q F Fs s st ks j F' Fs' s' b) (hj : j < ks.length) (hks : ks.length ≤ 1000) (hage : st.age ≤ 20000) (hcl : s.calls ≤ 500000000000) (hok : ∀ k ∈ ks, keyOk k) :
  Calls Tryz.prog 60 #[.pointer (some ⟨q, 0, none⟩), .string ks[j]] wr fun e w' => e = .returned (.int .i64 0) ∧ ∃ (F2 Fs2 : Foot) (s2 : SDev) (b2 : Nat), JStep S W w w' p q F Fs s st ks (j + 1) F2 Fs2 s2 b2 := by
 have hc := h.go.calls
 refine (jadd1 S W wr hT p q F' Fs' s' (jpart st ks j b) h.jb (by show st.age + j + 1 ≤ 30000; omega) (by omega) ks[j] (hok _ (List.getElem_mem hj))).mono ?_
 rintro e w' ⟨rfl, F2, Fs2, s2, b2, hd2, hr2, hb2, hg2⟩
 have e1 : jnext (jpart st ks j b) ks[j] b2 = jpart st ks (j + 1) b2 := by
  unfold jnext jpart
  rw [List.take_succ_eq_append_getElem hj, ← List.append_assoc]
  rfl
 rw [e1] at hr2
 refine ⟨rfl, F2, Fs2, s2, b2, h.jb.moved hd2 hr2 rfl rfl hg2, h.go.trans hg2 fun _ => Iff.rfl, Nat.le_trans h.le hb2⟩
end
theorem jkey_at {w : World} {A : Option Addr} {ks : List ByteArray} {G : Nat → Prop} (h : Row w A G (ks.map Value.string)) {j : Nat} (hj : j < ks.length) : ∃ b o, A = some ⟨b, o, none⟩ ∧ w.cell? ⟨b, o + j, none⟩ = some (.string ks[j]) := by
 obtain ⟨b, o, e, -, hc⟩ := h.at_ (k := j) (by simpa using hj)
 exact ⟨b, o, e, by simpa using hc⟩
theorem jadds (S : Slog2) (W w : World) (hT : S.T W) (p q : Nat) (F Fs : Foot) (s : SDev) (st : JSt) (h : Jb S W w p q F Fs s st) (hage : st.age ≤ 20000) (hcl : s.calls ≤ 500000000000) (A : Option Addr) (c n : Nat) (ks : List ByteArray) (hn : n = ks.length)
  (hrow : Row w A (fun b => ¬ F.all b ∧ ¬ Fs.all b) (ks.map Value.string)) (hnc : n ≤ c) (_hcm : c ≤ maxLen) (hks : ks.length ≤ 1000) (hok : ∀ k ∈ ks, keyOk k) :
  Calls Tryz.prog 26 #[.pointer (some ⟨q, 0, none⟩), .slice A n c] w (JAddsPost S w p q F Fs s st ks) := by
 have c0 : ∃ lq, w.cell? ⟨q, 0, none⟩ = some (.pointer (some ⟨lq, 0, none⟩)) := by
  obtain ⟨lq, Fl, v, lst, rfl, hc, -⟩ := h.r
  exact ⟨lq, hc.blk.c0⟩
 obtain ⟨lq0, c0⟩ := c0
 have HDN := Hd (jdown w q lq0 c0)
 have hn1 : n ≤ 1000 := by omega
 have HMAY := Hd (show ∀ (wr : World) (j : Nat) (hj : j < ks.length), Calls Tryz.prog 59 #[.string ks[j]] wr fun e w' => e = .returned (.bool true) ∧ wr = w' from fun wr j hj =>
  jmay_any wr ks[j] true ⟨fun _ => hok _ (List.getElem_mem hj), fun _ => rfl⟩ (by have := (hok _ (List.getElem_mem hj)).2; omega))
 have HROW := Hd hrow
 have HN := Hd hn
 have HST := Hd (show ∀ wr, Kp w wr → JStep S W w wr p q F Fs s st ks 0 F Fs s st.base from fun wr hk => JStep.start h hk)
 have HONE := Hd (show ∀ (wr : World) (j : Nat) (F' Fs' : Foot) (s' : SDev) (b : Nat), JStep S W w wr p q F Fs s st ks j F' Fs' s' b → ∀ hj : j < ks.length, Calls Tryz.prog 60 #[.pointer (some ⟨q, 0, none⟩), .string ks[j]] wr fun e w' => e = .returned (.int .i64 0) ∧ ∃ (F2 Fs2 : Foot) (s2 : SDev) (b2 : Nat), JStep S W w w' p q F Fs s st ks (j + 1) F2 Fs2 s2 b2 from
  fun wr j F' Fs' s' b h1 hj => h1.one hT hj hks hage hcl hok)
 have HEND := Hd (show ∀ (wr : World) (F' Fs' : Foot) (s' : SDev) (b : Nat), JStep S W w wr p q F Fs s st ks n F' Fs' s' b → ∃ lq, wr.cell? ⟨q, 0, none⟩ = some (.pointer (some ⟨lq, 0, none⟩)) ∧
   Calls Tryz.prog 46 #[.pointer (some ⟨lq, 0, none⟩)] wr fun e w1 => e = .returned (.int .i64 0) ∧ Calls Tryz.prog 24 #[.pointer (some ⟨q, 0, none⟩)] w1 fun e w2 => ∃ t, e = .returned (.int .i64 t) ∧ JAddsPost S w p q F Fs s st ks (.returned (.tuple #[.int .i64 t, .int .i64 0])) w2 from by
  intro wr F' Fs' s' b h1
  subst hn
  obtain ⟨d, r, ap, kp, gf, gs, room⟩ := h1.jb
  obtain ⟨lq, Fl, v, lst, rfl, hc, hm⟩ := r
  have hgc := h1.go.calls
  refine ⟨lq, hc.blk.c0, (jflushed S W wr hT p q lq F' Fl v s' _ lst d hc hm ap kp gf gs room (by omega) (by show st.age + ks.length + 1 ≤ 30000; omega)).mono ?_⟩
  rintro e w1 ⟨rfl, F2, Fs2, rows, k, hd2, hr2, hk2, hg2⟩
  have e1 : (⟨(jpart st ks ks.length b).place, (jpart st ks ks.length b).segs, (jpart st ks ks.length b).keys, (jpart st ks ks.length b).base, (jpart st ks ks.length b).kept, (jpart st ks ks.length b).age + 1⟩ : JSt) = jadd st ks b := by
   unfold jpart jadd
   simp
  rw [e1] at hr2 hk2
  refine ⟨rfl, (jseq_is S w1 p q Fs2 _ _ hr2).mono ?_⟩
  rintro e w2 ⟨rfl, hk⟩
  refine ⟨_, rfl, ?_, F2, Fs2, rows, k, b, hd2.keep (hk.mono fun _ _ _ => trivial), jrep_keep hr2 (hk.mono fun _ _ _ => trivial), hk2, h1.le, (h1.go.trans hg2 fun _ => Iff.rfl).kp hk⟩
  unfold jadd
  rw [List.length_append])
 clear h hn hrow hks hok hage hcl hT
 unfold maxLen at _hcm
 go_enter Tryz.func26, Tryz.ntmps26
 go_wp2_with fail
 refine (show Calls _ _ _ _ _ from HDN.out).mono ?_
 rintro e w' ⟨rfl, rfl⟩
 clear HDN
 go_wp2_with fail
 go_loopw [16] (fun i wr => ∃ j, j ≤ n ∧ i = .int .i64 j ∧ RowKit.Hid (Kp w wr)) (fun i _ => n - (intOf i).toNat)
 case atStart => exact ⟨0, Nat.zero_le _, rfl, Hd (Keeps.refl _ _)⟩
 case round =>
  obtain ⟨j, hj, rfl, hkr⟩ := hrel
  by_cases hjn : j < n
  ·have t1 : decide ((j : Int) < (n : Int)) = true := by simp; omega
   have hjl : j < ks.length := by rw [← HN.out]; exact hjn
   obtain ⟨b, o, rfl, hcell⟩ := jkey_at (HROW.out.keep (hkr.out.mono fun _ _ _ => trivial)) hjl
   have HM := Hd (HMAY.out wr j hjl)
   generalize ks[j] = kj at hcell HM
   go_wp2_with fail
   refine (show Calls _ _ _ _ _ from HM.out).mono ?_
   rintro e w' ⟨rfl, rfl⟩
   go_wp2_with fail
   go_roundw
   case rel => exact ⟨j + 1, by omega, by go_num, hkr⟩
   case measure => simp [intOf]; omega
  ·have t1 : decide ((j : Int) < (n : Int)) = false := by simp; omega
   obtain rfl : j = n := by omega
   have HS0 := Hd (HST.out wr hkr.out)
   clear hjn HMAY hkr HST
   go_wp2_with fail
   go_loopw [26] (fun i wr => ∃ (j' : Nat) (F' Fs' : Foot) (s' : SDev) (b : Nat), j' ≤ j ∧ i = .int .i64 j' ∧ RowKit.Hid (JStep S W w wr p q F Fs s st ks j' F' Fs' s' b)) (fun i _ => j - (intOf i).toNat)
   case atStart => exact ⟨0, F, Fs, s, st.base, Nat.zero_le _, rfl, HS0⟩
   case round =>
    obtain ⟨j', F', Fs', s', b, hj', rfl, hst⟩ := hrel
    by_cases hjn : j' < j
    ·have t1 : decide ((j' : Int) < (j : Int)) = true := by simp; omega
     have hjl : j' < ks.length := by rw [← HN.out]; exact hjn
     obtain ⟨b1, o1, rfl, hcell⟩ := jkey_at (hst.out.row HROW.out) hjl
     have HM := Hd (HONE.out wr j' F' Fs' s' b hst.out hjl)
     generalize ks[j'] = kj at hcell HM
     go_wp2_with fail
     refine (show Calls _ _ _ _ _ from HM.out).mono ?_
     rintro e w' ⟨rfl, F2, Fs2, s2, b2, h2⟩
     have H2 := Hd h2
     clear h2 HM hst hcell
     go_wp2_with fail
     go_roundw
     case rel => exact ⟨j' + 1, F2, Fs2, s2, b2, by omega, by go_num, H2⟩
     case measure => simp [intOf]; omega
    ·have t1 : decide ((j' : Int) < (j : Int)) = false := by simp; omega
     obtain rfl : j' = j := by omega
     obtain ⟨lq, d0, hfl⟩ := HEND.out wr F' Fs' s' b hst.out
     have HFL := Hd hfl
     clear hjn hfl HEND hst
     go_wp2_with fail
     refine (show Calls _ _ _ _ _ from HFL.out).mono ?_
     rintro e w1 ⟨rfl, hsq⟩
     have HSQ := Hd hsq
     clear hsq HFL d0
     go_wp2_with fail
     refine (show Calls _ _ _ _ _ from HSQ.out).mono ?_
     rintro e w2 ⟨t, rfl, hp⟩
     have HP := Hd hp
     clear hp HSQ
     go_wp2_with fail
     go_ret2
     exact HP.out
theorem jadds_no (S : Slog2) (w : World) (p q : Nat) (Fs : Foot) (s : SDev) (st : JSt) (h : jrep S w p q Fs st s) (A : Option Addr) (c n : Nat) (ks : List ByteArray) (hn : n = ks.length)
  (hrow : Row w A (fun _ => True) (ks.map Value.string)) (_hnc : n ≤ c) (_hcm : c ≤ maxLen) (hks : ks.length ≤ 1000) (hsz : ∀ k ∈ ks, k.size ≤ 1000000) (hno : ∃ k ∈ ks, ¬ keyOk k) :
  Calls Tryz.prog 26 #[.pointer (some ⟨q, 0, none⟩), .slice A n c] w fun e w' => e = .returned (.tuple #[.int .i64 0, .int .i64 1]) ∧ Kp w w' := by
 have c0 : ∃ lq, w.cell? ⟨q, 0, none⟩ = some (.pointer (some ⟨lq, 0, none⟩)) := by
  obtain ⟨lq, Fl, v, lst, rfl, hc, -⟩ := h
  exact ⟨lq, hc.blk.c0⟩
 obtain ⟨lq0, c0⟩ := c0
 have HDN := Hd (jdown w q lq0 c0)
 have hn1 : n ≤ 1000 := by omega
 obtain ⟨j0, hj0, hbad, hgood⟩ : ∃ (j0 : Nat) (hj : j0 < ks.length), ¬ keyOk ks[j0] ∧ ∀ (j : Nat) (hj : j < ks.length), j < j0 → keyOk ks[j] := by
  obtain ⟨k, hk, hbk⟩ := hno
  obtain ⟨i, hi, rfl⟩ := List.getElem_of_mem hk
  obtain ⟨j0, ⟨hj0, hb0⟩, hmin⟩ := jleast (P := fun i => ∃ hi : i < ks.length, ¬ keyOk ks[i]) i ⟨hi, hbk⟩
  exact ⟨j0, hj0, hb0, fun j hj hlt => Classical.byContradiction fun hn => hmin j hlt ⟨hj, hn⟩⟩
 have HMAY := Hd (show ∀ (wr : World) (j : Nat) (hj : j < ks.length), j < j0 → Calls Tryz.prog 59 #[.string ks[j]] wr fun e w' => e = .returned (.bool true) ∧ wr = w' from fun wr j hj hlt =>
  jmay_any wr ks[j] true ⟨fun _ => hgood j hj hlt, fun _ => rfl⟩ (hsz _ (List.getElem_mem hj)))
 have HBAD := Hd (show ∀ (wr : World), Calls Tryz.prog 59 #[.string ks[j0]] wr fun e w' => e = .returned (.bool false) ∧ wr = w' from fun wr =>
  jmay_any wr ks[j0] false ⟨fun h => (by cases h), fun h => absurd h hbad⟩ (hsz _ (List.getElem_mem hj0)))
 have HROW := Hd hrow
 have HN := Hd hn
 have hj0n : j0 < n := by omega
 clear h hn hrow hks hno hsz hbad hgood
 unfold maxLen at _hcm
 go_enter Tryz.func26, Tryz.ntmps26
 go_wp2_with fail
 refine (show Calls _ _ _ _ _ from HDN.out).mono ?_
 rintro e w' ⟨rfl, rfl⟩
 clear HDN
 go_wp2_with fail
 go_loopw [16] (fun i wr => ∃ j, j ≤ j0 ∧ i = .int .i64 j ∧ RowKit.Hid (Kp w wr)) (fun i _ => n - (intOf i).toNat)
 case atStart => exact ⟨0, Nat.zero_le _, rfl, Hd (Keeps.refl _ _)⟩
 case round =>
  obtain ⟨j, hj, rfl, hkr⟩ := hrel
  have t1 : decide ((j : Int) < (n : Int)) = true := by simp; omega
  by_cases hjn : j < j0
  ·have hjl : j < ks.length := by rw [← HN.out]; omega
   obtain ⟨b, o, rfl, hcell⟩ := jkey_at (HROW.out.keep (hkr.out.mono fun _ _ _ => trivial)) hjl
   have HM := Hd (HMAY.out wr j hjl hjn)
   generalize ks[j] = kj at hcell HM
   go_wp2_with fail
   refine (show Calls _ _ _ _ _ from HM.out).mono ?_
   rintro e w' ⟨rfl, rfl⟩
   go_wp2_with fail
   go_roundw
   case rel => exact ⟨j + 1, by omega, by go_num, hkr⟩
   case measure => simp [intOf]; omega
  ·obtain rfl : j = j0 := by omega
   obtain ⟨b, o, rfl, hcell⟩ := jkey_at (HROW.out.keep (hkr.out.mono fun _ _ _ => trivial)) hj0
   have HM := Hd (HBAD.out wr)
   clear HMAY HBAD
   generalize ks[j] = kj at hcell HM
   go_wp2_with fail
   refine (show Calls _ _ _ _ _ from HM.out).mono ?_
   rintro e w' ⟨rfl, rfl⟩
   go_wp2_with fail
   go_ret2
   exact ⟨rfl, hkr.out⟩
end Go.Proofs.YticophaepapjoaaGreatDoor
