/-
  SlgRead, IxPut, IxDrop, JnLearn: texts of mine, joined.
-/
import Derived.Test.YticophaepapjoaaGreatDoorAllA32
import Derived.Test.YticophaepapjoaaGreatDoorAllA33
import Derived.Test.YticophaepapjoaaGreatDoorAllA28
namespace Go.Proofs.YticophaepapjoaaGreatDoor
open Go Go.RowKit Go.Joins
set_option maxRecDepth 100000 in
set_option maxHeartbeats 2000000 in
theorem lread_any (w : World) (hT : Taken w) (q : Nat) (Fs : Foot) (p i n : Nat) (ks : List Seg) (sl left nx : Nat) (tl : List UInt8) (K T : Value) (Es : List Value) (h : LogAt w q Fs p i n ks sl left nx tl K T Es) (F : Foot) (s : SDev) (hd : DAt w p F s)
  (hg : ∀ sg ∈ ks, Good s.now i n sg) (hrise : ks.Pairwise fun a b => a.end_ ≤ b.first) (hn : n ≤ 200) (hin : i + 8 * n ≤ s.now.length) (t : Nat) (ht : t < ks.length) (sg : Seg) (hsg : ks[t] = sg) (j : Nat) (hj : j < sg.recs.length) (z : Int) (hz : z = ((sg.first + j : Nat) : Int)) :
  Calls Tryz.prog 85 #[.pointer (some ⟨q, 0, none⟩), .int .i64 z] w fun e w' => ∃ v, e = .returned (.tuple #[v, .int .i64 0]) ∧ BodyV w w' v (sg.recs[j]).body ∧ Kp w w' := by
 have hsm := hd.ok.small
 have HDN := Lib.hid (down_no w q p i n h.head)
 have HBD := Lib.hid (fun (w' : World) (hk : Kp w w') (sg : Seg) (E : Value) (hm : sg ∈ ks) (hE : SegV w' Fs.M sg E) (j : Nat) (hj : j < sg.recs.length) => body_any w' (hT.keep hk) q p i n (h.head.keep hk trivial) F s (hd.keep (hk.mono fun _ _ _ => trivial)) sg E Fs.M hE (hg sg hm).ok (hg sg hm).on (by omega) (by have := (hg sg hm).slot; omega) (hg sg hm).first (by have := (hg sg hm).slot; omega) j hj)
 have HGC := Lib.hid (fun (k : Nat) (hk : k < ks.length) => (show (ks[k]).recs.length ≤ 212 ∧ (ks[k]).first ≤ 274877906943 from ⟨(hg _ (List.getElem_mem hk)).ok.count, (hg _ (List.getElem_mem hk)).first⟩))
 have HRI := Lib.hid (fun (k : Nat) (hkl : k < ks.length) (hk : k < t) => (show (ks[k]).first + (ks[k]).recs.length ≤ sg.first from by rw [← hsg]; exact List.pairwise_iff_getElem.1 hrise k t hkl ht hk))
 obtain ⟨A, c, rfl, hlc, hcm, hs⟩ := h.segs
 unfold maxLen at hcm
 have c3 := (cell_of_block h.blk 3).trans rfl
 have HSG := Lib.hid hs
 have HHT := Lib.hid ht
 obtain ⟨f, hf⟩ : ∃ f, sg.first = f := ⟨_, rfl⟩
 have HSGT := Lib.hid hsg
 have hgt1 : j < 212 := Nat.lt_of_lt_of_le hj (by rw [← hsg]; exact (HGC.out t ht).1)
 have hf2 : f ≤ 274877906943 := by rw [← hf, ← hsg]; exact (HGC.out t ht).2
 have hzf : z = (f : Int) + (j : Int) := by rw [hz, hf]; omega
 have HF := Lib.hid hf
 have HJ := Lib.hid hj
 clear h hs hT hd hg hrise hz hf hsg
 subst hzf
 go_enter Tryz.func85, Tryz.ntmps85
 go_wp2_with fail
 refine HDN.out.mono ?_
 rintro e w' ⟨rfl, rfl⟩
 go_wp2_with fail
 go_loopw [17] (fun vk wr => ∃ k : Nat, k ≤ t ∧ vk = .int .i64 k ∧ Kp w wr) (fun vk _ => ks.length - (intOf vk).toNat)
 case atStart => exact ⟨0, Nat.zero_le _, rfl, Keeps.refl _ _⟩
 case round =>
  obtain ⟨k, hk, rfl, hkp⟩ := hrel
  have hlt : k < ks.length := by omega
  obtain ⟨b, o, E, rfl, hbM, d0, d1, d2, hE⟩ := (HSG.out.keep (hkp.mono fun _ _ _ => trivial)) k hlt
  obtain ⟨AE, cE, rfl, -⟩ := hE.ex
  have HE := Lib.hid hE
  have HK := Lib.hid hkp
  have HMEM := Lib.hid (List.getElem_mem hlt)
  have HGK := Lib.hid (HGC.out k hlt)
  have HRK := Lib.hid (HRI.out k hlt)
  have HTK := Lib.hid (show ∀ e : k = t, ks[k] = sg from fun e => by subst e; exact HSGT.out)
  generalize ks[k] = sk at d0 d1 d2 HE HMEM HGK HRK HTK
  obtain ⟨m, hm⟩ : ∃ m, sk.recs.length = m := ⟨_, rfl⟩
  obtain ⟨fk, hfk⟩ : ∃ fk, sk.first = fk := ⟨_, rfl⟩
  have HM := Lib.hid hm
  have HFK := Lib.hid hfk
  have hgk1 : m ≤ 212 := by subst hm; exact HGK.out.1
  have hgk2 : fk ≤ 274877906943 := by subst hfk; exact HGK.out.2
  rw [hm] at d2
  rw [hfk] at d1
  have hcs : (k < t ∧ fk + m ≤ f) ∨ k = t := by
   rcases Nat.lt_or_ge k t with h | h
   ·left; refine ⟨h, ?_⟩
    have := HRK.out h
    rw [hm, hfk, HF.out] at this; exact this
   ·right; omega
  have HNX := Lib.hid (fun w' => snext_any w' sk.slot fk AE m cE (by omega) (by omega))
  have HK2 := Lib.hid (show Kp wr (wr.alloc (.cells #[.int .i64 (sk.slot : Int), .int .i64 (fk : Int), .slice AE m cE] 179)) from (Keeps.refl _ wr).alloc _)
  have HBX := Lib.hid (SBox.new wr sk.slot fk (.slice AE m cE))
  obtain ⟨w0, hw0⟩ : ∃ w0, wr.alloc (.cells #[.int .i64 (sk.slot : Int), .int .i64 (fk : Int), .slice AE m cE] 179) = w0 := ⟨_, rfl⟩
  have HW0 := Lib.hid hw0
  rw [hw0] at HK2 HBX
  clear hE hkp hm hfk hw0
  rcases hcs with ⟨hkt, hle⟩ | rfl
  ·have t1 : decide ((f : Int) + (j : Int) < (fk : Int)) = false := by simp; omega
   have t2 : decide ((fk : Int) + (m : Int) ≤ (f : Int) + (j : Int)) = true := by simp; omega
   generalize sk.slot = ss at d0 HNX HBX HW0
   go_wp2_with fail
   rw [HW0.out]
   refine (HNX.out w0).mono ?_
   rintro e' w1 ⟨rfl, hk1⟩
   have HK1 := Lib.hid (HK.out.trans (HK2.out.trans hk1))
   clear hk1
   go_wp2_with fail
   go_roundw
   case rel => exact ⟨k + 1, by omega, by go_num, HK1.out⟩
   case measure => simp [intOf]; omega
  ·obtain rfl : sk = sg := HTK.out rfl
   obtain rfl : fk = f := HFK.out.symm.trans HF.out
   have t1 : decide ((fk : Int) + (j : Int) < (fk : Int)) = false := by simp; omega
   have hj2 : j < m := by rw [← HM.out]; exact HJ.out
   have t2 : decide ((fk : Int) + (m : Int) ≤ (fk : Int) + (j : Int)) = false := by simp; omega
   have q1 : (fk : Int) + (j : Int) - (fk : Int) = (j : Int) := by omega
   obtain ⟨y, hy⟩ : ∃ y, (sk.recs[j]'(HJ.out)).body = y := ⟨_, rfl⟩
   have HY := Lib.hid hy
   have hb := fun w1 (hk : Kp w0 w1) => (show Calls Tryz.prog 119 #[.pointer (some ⟨q, 0, none⟩), .agg #[.int .i64 (sk.slot : Int), .int .i64 (fk : Int), .slice AE m cE], .int .i64 (j : Int)] w1 fun e w' => ∃ b, e = .returned (.tuple #[b, .bool true]) ∧ BodyV w1 w' b y ∧ Kp w1 w' from by
    have h := HBD.out w1 (HK.out.trans (HK2.out.trans hk)) sk _ HMEM.out (HE.out.keep ((HK2.out.trans hk).mono fun _ _ _ => trivial)) j HJ.out
    rw [hy] at h
    have e1 := HM.out
    have e2 := HFK.out
    subst e1 e2
    exact h)
   have HB := Lib.hid hb
   clear hy
   generalize sk.slot = ss at d0 HNX HBX HW0 HB
   clear hb
   go_wp2_with fail
   rw [HW0.out]
   refine (HNX.out w0).mono ?_
   rintro e' w1 ⟨rfl, hk1⟩
   have hbx := HBX.out.keep hk1 trivial
   have e0 := hbx.s
   have e1 := hbx.f
   have e2 := hbx.e
   have HB1 := Lib.hid (HB.out w1 hk1)
   have HK1 := Lib.hid (HK.out.trans (HK2.out.trans hk1))
   clear hk1 hbx HB
   go_wp2_with fail
   refine HB1.out.mono ?_
   rintro e' w2 ⟨v, rfl, hbv, hk2⟩
   have H1 := Lib.hid (hbv.from (w0 := w) HK1.out.size)
   have H2 := Lib.hid (HK1.out.trans hk2)
   clear hbv hk2 e0 e1 e2
   go_wp2_with fail
   go_ret2
   exact ⟨_, rfl, by rw [HY.out]; exact H1.out, H2.out⟩
section
variable {w w' W : World} {q g n c i : Nat} {T : Tab} {st : IxSt} {k : ByteArray} {p : Int} {A : Option Addr}
theorem TabAt.place (h : TabAt w g n T) (hi : i < n) (hf : (T i).full = true) (p : Int) : TabAt (w.setCell ⟨g, i * 4 + 2, none⟩ (.int .i64 p)) g n (setT T i ⟨(T i).key, (T i).hash, p, true⟩) := by
 refine ⟨fun m hm => ?_, fun m => ?_, by simpa using h.lt⟩
 ·by_cases e : m = i * 4 + 2
  ·subst e
   rw [World.cell?_setCell_same _ _ _ (h.c2 hi), tabV, if_neg (by omega), if_neg (by omega), if_pos (by omega), show (i * 4 + 2) / 4 = i by omega, setT_at]
  ·rw [World.cell?_setCell_other _ _ _ _ (fun e2 => e (by injection e2 with _ e2; exact e2.symm)), h.cell m hm]
   unfold tabV
   by_cases e4 : m / 4 = i
   ·rw [e4, setT_at]
    by_cases e0 : m % 4 = 0
    ·rw [if_pos e0, if_pos e0]
    ·by_cases e1 : m % 4 = 1
     ·rw [if_neg e0, if_neg e0, if_pos e1, if_pos e1]
     ·have e2 : ¬ m % 4 = 2 := by omega
      rw [if_neg e0, if_neg e0, if_neg e1, if_neg e1, if_neg e2, if_neg e2, hf]
   ·rw [setT_ne _ _ e4]
 ·rw [World.frozen?_setCell]; exact h.ice m
theorem ixPut_len (st : IxSt) (k : ByteArray) (p : Int) (v : Int) (hv : ixGet st k = some v) : (ixPut st k p).length = st.length := by
 have hl := congrArg List.length (ixPut_keys st k p (by rw [hv]; rfl))
 rwa [List.length_map, List.length_map] at hl
theorem step_of {B : Option Addr} (hk : Keeps (fun b => ¬ (ixFoot q A).M b) w w') (hB : ∀ g, B = some ⟨g, 0, none⟩ → A = some ⟨g, 0, none⟩ ∨ w.heap.size ≤ g) : Step (ixFoot q A) (ixFoot q B) w w' := by
 refine ⟨hk, ?_, fun b hb => hb.elim⟩
 rintro b (rfl | hb)
 ·exact .inl (.inl rfl)
 ·rcases hB b hb with h | h
  ·exact .inl (.inr h)
  ·exact .inr h
end
set_option maxRecDepth 100000 in
set_option maxHeartbeats 1000000 in
theorem ixput_any (w : World) (q : Nat) (F : Foot) (st : IxSt) (hR : IxRep w q F st) (hl : st.length ≤ 32768) (k : ByteArray) (p : Int) (hk : k.size ≤ 1000000) (hp : i64 p) :
  Calls Tryz.prog 108 #[.pointer (some ⟨q, 0, none⟩), .string k, .int .i64 p] w fun e w' => e = .returned (.int .i64 ((ixGet st k).getD 0)) ∧ ∃ F' : Foot, IxRep w' q F' (ixPut st k p) ∧ Step F F' w w' := by
 obtain ⟨A, n, T, rfl, hR⟩ := hR
 have hn := hR.n
 have hn1 : n ≤ 1099511627776 := by omega
 obtain ⟨w1, hw1⟩ : ∃ w1, w.alloc (.cells #[.string k] 9) = w1 := ⟨_, rfl⟩
 have hk1 : Kp w w1 := by rw [← hw1]; exact (Keeps.refl _ w).alloc _
 have hR1 := hR.keep (hk1.mono fun _ _ _ => trivial)
 have hc : w1.cell? ⟨w.heap.size, 0, none⟩ = some (.string k) := by rw [← hw1]; exact (cell_of_block (heap_alloc_new w _) 0).trans rfl
 have HH := Lib.hid (hash_any k w.heap.size w1 hk hc)
 have HF := Lib.hid (find_s w1 q A n st.length T st hR1.s hR1.ok (fun h => (hR1.zero h).1) hn1 k)
 have HFIT := Lib.hid (fit_any w1 q A n st.length T st hR1.s hR1.ok (fun h => (hR1.zero h).1) rfl hR1.i hn1 (by omega))
 have HR := Lib.hid hR1
 have HW1 := Lib.hid hw1
 have HK1 := Lib.hid hk1
 have HADD := Lib.hid (fun (w2 : World) (g n' : Nat) (T' : Tab) (hA : IxAt w2 q g n' st.length T') (hT : TabOk hashN T' n' st) (hno : ixGet st k = none) (h1 : st.length + 1 < n') (h2 : n' ≤ 8 * (st.length + 1)) => add_any w2 q g n' st.length T' st hA hT (by omega) (by omega) k p hno h1)
 have HP := Lib.hid hp
 have hks : k.size ≤ 281474976710656 := by omega
 clear hR hw1 hk1 hR1 hc hn hp
 generalize hX : hashN k = X at HH HF HADD
 clear hX
 go_enter Tryz.func108, Tryz.ntmps108
 go_wp2_with fail
 rw [HW1.out]
 refine (show Calls _ _ _ _ _ from HH.out).mono ?_
 rintro e w2 ⟨rfl, hw2⟩
 have hw2 := hw2.symm
 subst hw2
 go_wp2_with fail
 refine (show Calls _ _ _ _ _ from HF.out).mono ?_
 rintro e w3 ⟨hw3, (⟨i, hi, hf, hkey, rfl⟩ | ⟨hno, rfl⟩)⟩
 ·have hw3 := hw3.symm
  subst hw3
  obtain ⟨g, rfl, hA⟩ := HR.out.g (by omega)
  have c0 := hA.blk.c0
  have c2 := hA.tab.c2 hi
  have tf := hA.tab.ice
  have hg := get_val HR.out hi hf hkey
  have HV := Lib.hid hg
  have hst : IxRepAt (w1.setCell ⟨g, i * 4 + 2, none⟩ (.int .i64 p)) q (some ⟨g, 0, none⟩) n (setT T i ⟨(T i).key, (T i).hash, p, true⟩) (ixPut st k p) := by
   have hlen := ixPut_len st k p _ hg
   refine ⟨⟨?_, fun _ => ⟨g, rfl, hA.tab.place hi hf p, hA.ne⟩⟩, fun h0 => ?_, fun h0 => by omega, ixPut_i64 HR.out.i HP.out, by rw [hlen]; exact HR.out.n⟩
   ·rw [hlen]
    exact hA.blk.keep ((Keeps.refl (fun b => b ≠ g) w1).setCell (p := ⟨g, i * 4 + 2, none⟩) (.inr fun e => e rfl) _) (fun e => hA.ne e.symm)
   ·have := (HR.out.ok h0).again hi hf p
    rwa [hkey] at this ⊢
  have HS := Lib.hid hst
  have HKK := Lib.hid (show Keeps (fun b => ¬ (ixFoot q (some ⟨g, 0, none⟩)).M b) w (w1.setCell ⟨g, i * 4 + 2, none⟩ (.int .i64 p)) from (HK1.out.mono fun _ _ _ => trivial).setCell (p := ⟨g, i * 4 + 2, none⟩) (.inr fun e => e (.inr rfl)) _)
  clear hA hf hkey hst hg
  generalize (T i).pos = P at c2 HV
  go_wp2_with fail
  go_ret
  rw [HV.out]
  exact ⟨rfl, _, ⟨_, _, _, rfl, HS.out⟩, step_of HKK.out fun g' hg' => .inl hg'⟩
 ·have hw3 := hw3.symm
  subst hw3
  have HV := Lib.hid hno
  clear hno
  go_wp2_with fail
  refine (show Calls _ _ _ _ _ from HFIT.out).mono ?_
  rintro e w2 ⟨rfl, g, n', T', hA, hT, h1, h2, h3, hk2⟩
  have HA := Lib.hid hA
  have HT := Lib.hid hT
  have H3 := Lib.hid h3
  have HK2 := Lib.hid hk2
  clear hA hT h3 hk2 HFIT HF
  go_wp2_with fail
  refine (show Calls _ _ _ _ _ from sclone_any k w2 hks).mono ?_
  rintro e w3 ⟨rfl, hk3⟩
  have HA3 := Lib.hid (HA.out.keep hk3 trivial trivial)
  have HK3 := Lib.hid hk3
  clear hk3
  go_wp2_with fail
  refine (show Calls _ _ _ _ _ from HADD.out w3 g n' T' HA3.out HT.out HV.out h1 h2).mono ?_
  rintro e w4 ⟨rfl, T4, hA4, hT4, hk4⟩
  have HS := Lib.hid (show IxRepAt w4 q (some ⟨g, 0, none⟩) n' T4 (ixPut st k p) from by
   rw [ixPut_new HV.out]
   refine ⟨⟨?_, fun _ => ⟨g, rfl, hA4.tab, hA4.ne⟩⟩, fun _ => hT4, fun h0 => by omega, fun x hx => ?_, ?_⟩
   ·rw [List.length_append]; exact hA4.blk
   ·rcases List.mem_append.1 hx with h | h
    ·exact HR.out.i x h
    ·simp at h; subst h; exact HP.out
   ·rw [List.length_append, List.length_cons, List.length_nil]; omega)
  have HSTEP := Lib.hid (show Step (ixFoot q A) (ixFoot q (some ⟨g, 0, none⟩)) w w4 from by
   refine step_of ?_ fun g' hg' => ?_
   ·have k12 : Keeps (fun b => b ≠ q) w w2 := (HK1.out.mono fun _ _ _ => trivial).trans HK2.out
    have k13 : Keeps (fun b => b ≠ q) w w3 := k12.trans (HK3.out.mono fun _ _ _ => trivial)
    refine ⟨hk4.os.trans k13.os, hk4.tape.trans k13.tape, hk4.output.trans k13.output, Nat.le_trans k13.size hk4.size, fun b hb hlt => ?_⟩
    have hbq : b ≠ q := fun e => hb (.inl e)
    refine (hk4.block b ⟨hbq, fun e => ?_⟩ (Nat.lt_of_lt_of_le hlt k13.size)).trans (k13.block b hbq hlt)
    rcases H3.out with h | h
    ·exact hb (.inr (by rw [e]; exact h))
    ·have := HK1.out.size; omega
   ·injection hg' with hg'
    injection hg' with hg'
    subst hg'
    rcases H3.out with h | h
    ·exact .inl h
    ·exact .inr (Nat.le_trans HK1.out.size h))
  clear hA4 hT4 hk4 HADD
  go_wp2_with fail
  go_ret
  rw [HV.out]
  exact ⟨rfl, _, ⟨_, _, _, rfl, HS.out⟩, HSTEP.out⟩
theorem ixDrop_len {st : IxSt} {k : ByteArray} {v : Int} (hnd : (st.map (·.1)).Nodup) (hg : ixGet st k = some v) : (ixDrop st k).length + 1 = st.length := by
 induction st with
 | nil => cases hg
 | cons a st ih =>
  by_cases h : a.1 = k
  ·obtain ⟨a1, a2⟩ := a
   have h : a1 = k := h
   subst h
   rw [ixDrop_cons hnd]; rfl
  ·have hg' : ixGet st k = some v := by
    unfold ixGet at hg ⊢
    rw [List.find?_cons, isK_not.2 h] at hg
    exact hg
   rw [List.map_cons, List.nodup_cons] at hnd
   have e : ixDrop (a :: st) k = a :: ixDrop st k := by
    unfold ixDrop
    rw [List.filter_cons, isK_not.2 h]
    rfl
   rw [e, List.length_cons, ih hnd.2 hg', List.length_cons]
theorem ixBelow_same {st : IxSt} {p : Int} (h : (ixBelow st p).length = st.length) : ixBelow st p = st := by
 unfold ixBelow at h ⊢
 exact List.Sublist.eq_of_length List.filter_sublist h
theorem ixBelow_le (st : IxSt) (p : Int) : (ixBelow st p).length ≤ st.length := List.length_filter_le _ _
set_option maxRecDepth 100000 in
set_option maxHeartbeats 1000000 in
theorem ixdrop_any (w : World) (q : Nat) (F : Foot) (st : IxSt) (hR : IxRep w q F st) (hl : st.length ≤ 32768) (k : ByteArray) (hk : k.size ≤ 1000000) :
  Calls Tryz.prog 107 #[.pointer (some ⟨q, 0, none⟩), .string k] w fun e w' => e = .returned (.bool (ixGet st k).isSome) ∧ ∃ F' : Foot, IxRep w' q F' (ixDrop st k) ∧ Step F F' w w' := by
 obtain ⟨A, n, T, rfl, hR⟩ := hR
 have hn := hR.n
 have hn1 : n ≤ 1099511627776 := by omega
 obtain ⟨w1, hw1⟩ : ∃ w1, w.alloc (.cells #[.string k] 9) = w1 := ⟨_, rfl⟩
 have hk1 : Kp w w1 := by rw [← hw1]; exact (Keeps.refl _ w).alloc _
 have hR1 := hR.keep (hk1.mono fun _ _ _ => trivial)
 have hc : w1.cell? ⟨w.heap.size, 0, none⟩ = some (.string k) := by rw [← hw1]; exact (cell_of_block (heap_alloc_new w _) 0).trans rfl
 have HH := Lib.hid (hash_any k w.heap.size w1 hk hc)
 have HF := Lib.hid (find_s w1 q A n st.length T st hR1.s hR1.ok (fun h => (hR1.zero h).1) hn1 k)
 have HR := Lib.hid hR1
 have HW1 := Lib.hid hw1
 have HK1 := Lib.hid hk1
 clear hR hw1 hk1 hR1 hc
 generalize hX : hashN k = X at HH HF
 clear hX
 go_enter Tryz.func107, Tryz.ntmps107
 go_wp2_with fail
 rw [HW1.out]
 refine (show Calls _ _ _ _ _ from HH.out).mono ?_
 rintro e w2 ⟨rfl, hw2⟩
 have hw2 := hw2.symm
 subst hw2
 go_wp2_with fail
 refine (show Calls _ _ _ _ _ from HF.out).mono ?_
 rintro e w3 ⟨hw3, (⟨i, hi, hf, hkey, rfl⟩ | ⟨hno, rfl⟩)⟩
 ·have hw3 := hw3.symm
  subst hw3
  obtain ⟨g, rfl, hA⟩ := HR.out.g (by omega)
  have hg := get_val HR.out hi hf hkey
  have HV := Lib.hid hg
  have hdl := ixDrop_len HR.out.nd hg
  obtain ⟨c, hc⟩ : ∃ c, (ixDrop st k).length = c := ⟨_, rfl⟩
  rw [hc] at hdl
  have HE := Lib.hid (empty_any w1 q g n c T st (by rw [hdl]; exact hA) (HR.out.ok (by omega)) hn1 (by omega) i hi hf)
  rw [hkey] at HE
  have HC := Lib.hid hc
  clear hA hf hkey hg hc
  go_wp2_with fail
  refine (show Calls _ _ _ _ _ from HE.out).mono ?_
  rintro e w4 ⟨rfl, T4, hA4, hT4, hk4⟩
  have HFIT := Lib.hid (fit_any w4 q (some ⟨g, 0, none⟩) n c T4 (ixDrop st k) hA4.s (fun _ => hT4) (fun h => by omega) HC.out.symm (ixDrop_i64 HR.out.i) hn1 (by omega))
  have HK4 := Lib.hid hk4
  clear hA4 hT4 hk4 HE
  go_wp2_with fail
  refine (show Calls _ _ _ _ _ from HFIT.out).mono ?_
  rintro e w5 ⟨rfl, g5, n5, T5, hA5, hT5, h1, h2, h3, hk5⟩
  have HS := Lib.hid (show IxRepAt w5 q (some ⟨g5, 0, none⟩) n5 T5 (ixDrop st k) from
   ⟨⟨by rw [HC.out]; exact hA5.blk, fun _ => ⟨g5, rfl, hA5.tab, hA5.ne⟩⟩, fun _ => hT5, fun h0 => by omega, ixDrop_i64 HR.out.i, by rw [HC.out]; omega⟩)
  have HSTEP := Lib.hid (show Step (ixFoot q (some ⟨g, 0, none⟩)) (ixFoot q (some ⟨g5, 0, none⟩)) w w5 from by
   refine step_of ?_ fun g' hg' => ?_
   ·have k14 : Keeps (Off q g) w w4 := (HK1.out.mono fun _ _ _ => trivial).trans HK4.out
    have k15 : Keeps (Off q g) w w5 := k14.trans (hk5.mono fun _ _ h => h.1)
    exact k15.mono fun b _ hb => ⟨fun e => hb (.inl e), fun e => hb (.inr (by rw [e]))⟩
   ·injection hg' with hg'
    injection hg' with hg'
    subst hg'
    rcases h3 with h | h
    ·exact .inl h
    ·exact .inr (Nat.le_trans (Nat.le_trans HK1.out.size HK4.out.size) h))
  clear hA5 hT5 h3 hk5 HFIT
  go_wp2_with fail
  go_ret
  rw [HV.out]
  exact ⟨rfl, _, ⟨_, _, _, rfl, HS.out⟩, HSTEP.out⟩
 ·have hw3 := hw3.symm
  subst hw3
  have HV := Lib.hid hno
  clear hno
  go_wp2_with fail
  go_ret
  have e : ixDrop st k = st := by
   unfold ixDrop
   rw [List.filter_eq_self]
   intro x hx
   rw [isK_not.2 (ixGet_none.1 HV.out x hx)]
   rfl
  rw [HV.out, e]
  exact ⟨rfl, _, ⟨_, _, _, rfl, HR.out⟩, step_of (HK1.out.mono fun _ _ _ => trivial) fun g' hg' => .inl hg'⟩
set_option maxRecDepth 100000 in
set_option maxHeartbeats 1000000 in
theorem ixbelow_any (w : World) (q : Nat) (F : Foot) (st : IxSt) (hR : IxRep w q F st) (hl : st.length ≤ 32768) (p : Int) (_hp : i64 p) :
  Calls Tryz.prog 73 #[.pointer (some ⟨q, 0, none⟩), .int .i64 p] w fun e w' => e = .returned (.int .i64 ((st.length - (ixBelow st p).length : Nat) : Int)) ∧ ∃ F' : Foot, IxRep w' q F' (ixBelow st p) ∧ Step F F' w w' := by
 obtain ⟨A, n, T, rfl, hR⟩ := hR
 have hn := hR.n
 have hq := hR.s.blk.lt
 have HFR := Lib.hid (from_any w q A n st.length T hR.s (by omega) p)
 have hall : (∀ s ∈ fromL T p n, s.full = true ∧ s.hash = (hashN s.key : Int)) ∧ (((fromL T p n).map kv).map (·.1)).Nodup ∧ ((fromL T p n).map kv).Perm (ixBelow st p) := by
  rcases Nat.eq_zero_or_pos n with h0 | h0
  ·subst h0
   rw [tab_nil, (hR.zero rfl).1]
   exact ⟨fun s hs => absurd hs (List.not_mem_nil), List.nodup_nil, List.Perm.refl _⟩
  ·exact from_ok (hR.ok h0) p
 have hlen : (fromL T p n).length = (ixBelow st p).length := by
  have := hall.2.2.length_eq
  rwa [List.length_map] at this
 have hle := ixBelow_le st p
 have HLAY := Lib.hid (show ∀ (w1 : World) (B : Option Addr) (k : Nat), Kp w w1 → w1.ownsRow w.heap.size 126 4 (.slice B (fromL T p n).length k) (fromL T p n).length (slC (fromL T p n)) →
   Calls Tryz.prog 109 #[.pointer (some ⟨q, 0, none⟩), .slice B (fromL T p n).length k] w1 fun e w' => e = .returned (.tuple #[]) ∧ ∃ F' : Foot, IxRep w' q F' (ixBelow st p) ∧ Step (ixFoot q A) F' w w' from fun w1 B k hk ho => by
  refine (lay_any w1 q _ st.length (hR.s.blk.keep hk trivial) B k _ ((SlsAt.of_own ho rfl).mono fun b _ hb => ?_) (by omega) hall.1 hall.2.1).mono ?_
  ·have := hb.1; omega
  ·rintro e w' ⟨rfl, g', n', T', h1, h2, h3, h4, h5, h6⟩
   rw [hlen] at h1 h3 h4
   refine ⟨rfl, _, ⟨some ⟨g', 0, none⟩, n', T', rfl, ⟨⟨h1.blk, fun _ => ⟨g', rfl, h1.tab, h1.ne⟩⟩, fun _ => h2.of_perm hall.2.2, fun h0 => by omega, ixBelow_i64 hR.i, by omega⟩⟩, step_of ?_ fun g2 hg2 => ?_⟩
   ·exact ((hk.mono fun _ _ _ => trivial).trans h6).mono fun b _ hb e => hb (.inl e)
   ·injection hg2 with hg2
    injection hg2 with hg2
    subst hg2
    exact .inr (Nat.le_trans hk.size h5))
 have HSAME := Lib.hid (show (ixBelow st p).length = st.length → ∀ w1, Kp w w1 → ∃ F' : Foot, IxRep w1 q F' (ixBelow st p) ∧ Step (ixFoot q A) F' w w1 from fun h w1 hk => by
  rw [ixBelow_same h]
  exact ⟨_, ⟨A, n, T, rfl, hR.keep (hk.mono fun _ _ _ => trivial)⟩, step_of (hk.mono fun _ _ _ => trivial) fun g' hg' => .inl hg'⟩)
 have HBLK := Lib.hid hR.s.blk
 obtain ⟨m, hm⟩ : ∃ m, (ixBelow st p).length = m := ⟨_, rfl⟩
 obtain ⟨c, hc⟩ : ∃ c, st.length = c := ⟨_, rfl⟩
 rw [hlen] at HFR HLAY
 rw [hm] at HFR HLAY hle HSAME ⊢
 rw [hc] at hle hl HSAME HBLK ⊢
 have hcast : ((c - m : Nat) : Int) = (c : Int) - (m : Int) := by omega
 clear hR hall hlen hm hc hn
 go_enter Tryz.func73, Tryz.ntmps73
 go_wp2_with fail
 refine (show Calls _ _ _ _ _ from HFR.out).mono ?_
 rintro e w1 ⟨B, k, rfl, ho, hk⟩
 have c1 := (HBLK.out.keep hk trivial).c1
 have HK := Lib.hid hk
 have HO := Lib.hid ho
 clear hk ho
 by_cases hgt : m < c
 ·have hd : decide ((0 : Int) < (c : Int) - (m : Int)) = true := by rw [decide_eq_true_eq]; omega
  go_wp2_with fail
  refine (show Calls _ _ _ _ _ from HLAY.out w1 B k HK.out HO.out).mono ?_
  rintro e w2 ⟨rfl, hfin⟩
  have HFIN := Lib.hid hfin
  clear hfin
  go_wp2_with fail
  go_ret
  rw [hcast]
  exact ⟨rfl, HFIN.out⟩
 ·obtain rfl : m = c := by omega
  have hd : decide ((0 : Int) < (m : Int) - (m : Int)) = false := by rw [decide_eq_false_iff_not]; omega
  go_wp2_with fail
  go_ret
  rw [hcast]
  refine ⟨?_, HSAME.out trivial w1 HK.out⟩
  simp
section
variable {S : Slog2} {w w1 w2 : World} {p q lq : Nat} {Fl : Foot} {bs : Int} {v v' : Value} {xs xs' : List Nat} {lst : LSt} {s : SDev}
theorem JAt.put (h : JAt S w1 p q lq Fl bs v xs lst s) (hg : w1.grownBy w2 v.ownBlock) (hr : w2.ownsRow 0 2 1 v' xs'.length (posC xs')) (hv : v'.ownBlock = v.ownBlock ∨ ∃ b, v'.ownBlock = some b ∧ w1.heap.size ≤ b) :
  JAt S (w2.setCell ⟨q, 2, none⟩ v') p q lq Fl bs v' xs' lst s ∧ Keeps (fun b => v.ownBlock ≠ some b ∧ b ≠ q) w1 (w2.setCell ⟨q, 2, none⟩ v') := by
 have hk12 : Keeps (fun b => v.ownBlock ≠ some b) w1 w2 := Keeps.of_grown hg fun b e _ hn => hn e
 have hk13 : Keeps (fun b => v.ownBlock ≠ some b ∧ b ≠ q) w1 (w2.setCell ⟨q, 2, none⟩ v') := (hk12.mono fun b _ hb => hb.1).setCell (.inr fun hn => hn.2 rfl) _
 have hqs : q < w1.heap.size := h.blk.lt
 have hqv' : v'.ownBlock ≠ some q := fun e => by
  rcases hv with h1 | ⟨b, h1, h2⟩
  ·exact h.qv (h1.symm.trans e)
  ·rw [e] at h1; injection h1 with h1; omega
 refine ⟨⟨(h.blk.keep hk12 h.qv).set2 v', S.keep h.l (hk13.mono fun b _ hb => ⟨fun e => h.lv b e hb, fun e => h.ql (e ▸ hb)⟩), h.on,
  (((Keeps.refl (fun b => b ≠ q) w2).setCell (.inr fun hn => hn rfl) _).own hr fun b hb e => hqv' (e ▸ hb)), h.ql, hqv', fun b hb hf => ?_⟩, hk13⟩
 rcases hv with h1 | ⟨g, h1, h2⟩
 ·exact h.lv b (h1.symm.trans hb) hf
 ·rw [hb] at h1; injection h1 with h1; have := S.lt h.l b hf; omega
theorem JAt.base (h : JAt S w1 p q lq Fl bs v xs lst s) (bs' : Int) : JAt S (w1.setCell ⟨q, 1, none⟩ (.int .i64 bs')) p q lq Fl bs' v xs lst s ∧ Keeps (fun b => b ≠ q) w1 (w1.setCell ⟨q, 1, none⟩ (.int .i64 bs')) := by
 have hk : Keeps (fun b => b ≠ q) w1 (w1.setCell ⟨q, 1, none⟩ (.int .i64 bs')) := (Keeps.refl _ w1).setCell (.inr fun hn => hn rfl) _
 exact ⟨⟨h.blk.set1 bs', S.keep h.l (hk.mono fun b _ hb e => h.ql (e ▸ hb)), h.on, hk.own h.row fun b hb e => h.qv (e ▸ hb), h.ql, h.qv, h.lv⟩, hk⟩
end
def JLearnPost (S : Slog2) (w : World) (p q lq : Nat) (Fl : Foot) (bs : Int) (v : Value) (xs : List Nat) (lst : LSt) (s : SDev) (e : Ending) (w' : World) : Prop :=
 e = .returned (.tuple #[]) ∧ ∃ v', JAt S w' p q lq Fl bs v' xs lst s ∧ Keeps (fun b => v.ownBlock ≠ some b ∧ b ≠ q) w w' ∧ (v'.ownBlock = v.ownBlock ∨ ∃ b, v'.ownBlock = some b ∧ w.heap.size ≤ b)
set_option maxRecDepth 100000 in
set_option maxHeartbeats 1000000 in
theorem jlearn_next (S : Slog2) (w : World) (p q lq b m sq x : Nat) (Fl : Foot) (v : Value) (xs : List Nat) (lst : LSt) (s : SDev) (h : JAt S w p q lq Fl (b : Int) v xs lst s) (hb : m ≤ 40000) (hm : m = b + xs.length) (hsq : sq = m + 1) :
  Calls Tryz.prog 98 #[.pointer (some ⟨q, 0, none⟩), .int .i64 (x : Int), .int .i64 (sq : Int)] w (JLearnPost S w p q lq Fl (b : Int) v (xs ++ [x]) lst s) := by
 obtain ⟨A0, c0, rfl, hlc, hcm⟩ := h.form
 obtain ⟨n0, hn0⟩ : ∃ n0, xs.length = n0 := ⟨_, rfl⟩
 rw [hn0] at hlc h hm ⊢
 have t1 : decide (((m : Int) + 1) < (sq : Int)) = false := by simp; omega
 have t2 : ((sq : Int) != (m : Int) + 1) = false := by simp; omega
 have HSEQ := Lib.hid (jseq w q lq b n0 A0 c0 h.blk (by omega) (m : Int) (by omega))
 have HC := Lib.hid h
 have HN0 := Lib.hid hn0
 have hn1 : n0 ≤ 40000 := by omega
 unfold maxLen at hcm
 clear h hsq hm hn0
 go_enter Tryz.func98, Tryz.ntmps98
 go_wp2_with fail
 refine (show Calls _ _ _ _ _ from HSEQ.out).mono ?_
 rintro e w1 ⟨rfl, z, rfl⟩
 have hk1 : Kp w (w.drewN z) := (Keeps.refl _ _).drewN z
 generalize w.drewN z = w1 at hk1 ⊢
 have HK1 := Lib.hid hk1
 have HC1 := Lib.hid (HC.out.kp hk1)
 have c2 : w1.cell? ⟨q, 2, none⟩ = some (.slice A0 n0 c0) := HC1.out.blk.c2
 have HROW := Lib.hid (show w1.ownsRow 0 2 1 (.slice A0 n0 c0) n0 (posC xs) from by have := HC1.out.row; rwa [HN0.out] at this)
 clear hk1 HSEQ HC
 go_wp2_with (at_builtin; refine j64_elem.list_append rfl (.tmp 36) (.tmp 38) _ rfl rfl (HROW.out.alloc _) rfl (src_one Tryz.underlying106 _ _ _ ?c1 _ ?c2 _) ?c3 ?c4 ?c5 ?_)
 case c1 => rfl
 case c2 => rfl
 case c3 => unfold maxLen; omega
 case c4 => omega
 case c5 => exact Nat.zero_le _
 intro v' w5 hown hg hgb
 rw [posC_snoc] at hown
 have hg2 := grown_of_alloc hg
 have hk5 : Keeps (fun b => (Value.slice A0 n0 c0).ownBlock ≠ some b) w1 w5 := Keeps.of_grown hg2 fun b e _ hn => hn e
 have blk5 := HC1.out.blk.keep hk5 HC1.out.qv
 have d2 := blk5.c2
 have df := blk5.f 2
 have hvv : v'.ownBlock = (Value.slice A0 n0 c0).ownBlock ∨ ∃ b, v'.ownBlock = some b ∧ w1.heap.size ≤ b := by
  rcases hgb with hgb | hgb
  ·exact .inl hgb
  ·exact .inr ⟨_, hgb, by simp⟩
 have hput := HC1.out.put (v' := v') (xs' := xs ++ [x]) hg2 (by rw [List.length_append, HN0.out]; exact hown) hvv
 have HP := Lib.hid (show JLearnPost S w p q lq Fl (b : Int) (.slice A0 n0 c0) (xs ++ [x]) lst s (.returned (.tuple #[])) (w5.setCell ⟨q, 2, none⟩ v') from
  ⟨rfl, v', hput.1, (HK1.out.mono fun _ _ _ => trivial).trans hput.2, hvv.imp id fun ⟨b, h1, h2⟩ => ⟨b, h1, Nat.le_trans HK1.out.size h2⟩⟩)
 clear hg hg2 hgb hk5 blk5 hput hvv HROW HC1 c2
 obtain ⟨g1, c1, rfl, -, -⟩ := hown.form (Nat.succ_pos _)
 clear hown
 go_wp2_with fail
 go_end0
 exact HP.out
set_option maxRecDepth 100000 in
set_option maxHeartbeats 1000000 in
theorem jlearn_first (S : Slog2) (w : World) (p q lq g sq x : Nat) (Fl : Foot) (lst : LSt) (s : SDev) (h : JAt S w p q lq Fl 0 (.slice none 0 0) [] lst s) (hg1 : 1 ≤ g) (hg2 : g ≤ 40000) (hsq : sq = g + 1) :
  Calls Tryz.prog 98 #[.pointer (some ⟨q, 0, none⟩), .int .i64 (x : Int), .int .i64 (sq : Int)] w (JLearnPost S w p q lq Fl (g : Int) (.slice none 0 0) [x] lst s) := by
 have t1 : decide ((1 : Int) < (sq : Int)) = true := by simp; omega
 have t2 : ((sq : Int) != (1 : Int)) = true := by simp; omega
 have t3 : decide (1 < sq) = true := by simp; omega
 have t4 : ((sq : Int) == (1 : Int)) = false := by simp; omega
 have t5 : (sq == 1) = false := by simp; omega
 have t6 : (sq != 1) = true := by simp; omega
 have HSEQ := Lib.hid (jseq w q lq 0 0 none 0 h.blk (by omega) 0 (by omega))
 have HC := Lib.hid h
 have HSQ := Lib.hid (show (sq : Int) - 1 = (g : Int) from by omega)
 have hsb : sq ≤ 50000 := by omega
 clear h hsq hg1 hg2
 go_enter Tryz.func98, Tryz.ntmps98
 go_wp2_with fail
 refine (show Calls _ _ _ _ _ from HSEQ.out).mono ?_
 rintro e w1 ⟨rfl, z, rfl⟩
 have hk1 : Kp w (w.drewN z) := (Keeps.refl _ _).drewN z
 generalize w.drewN z = w1 at hk1 ⊢
 have HK1 := Lib.hid hk1
 have HC1 := Lib.hid (HC.out.kp hk1)
 have c2 : w1.cell? ⟨q, 2, none⟩ = some (.slice none 0 0) := HC1.out.blk.c2
 have b1 := HC1.out.blk.c1
 have f1 := HC1.out.blk.f 1
 have f2 := HC1.out.blk.f 2
 have hb1 := HC1.out.base ((sq : Int) - 1)
 have hb2 := hb1.1.put (v' := .slice none 0 0) (xs' := []) (World.grownBy.refl _ _) hb1.1.row (.inl rfl)
 rw [HSQ.out] at hb1 hb2
 have HB1 := Lib.hid hb1.2
 have HB2 := Lib.hid hb2
 clear hk1 HSEQ HC hb1 hb2
 have HNIL := Lib.hid (show ∀ W : World, W.ownsRow 0 2 1 (.slice none 0 0) 0 ([] : List Value) from fun W => World.ownsRow_nil W 0 2 1)
 go_wp2_with (at_builtin; refine j64_elem.list_append rfl (.tmp 36) (.tmp 38) _ rfl rfl (HNIL.out _) rfl (src_one Tryz.underlying106 _ _ _ ?c1 _ ?c2 _) ?c3 ?c4 ?c5 ?_)
 case c1 => rfl
 case c2 => simp
 case c3 => unfold maxLen; omega
 case c4 => omega
 case c5 => exact Nat.zero_le _
 intro v' w5 hown hg hgb
 have hg2 := grown_of_alloc hg
 rw [HSQ.out] at hg2
 have hk5 : Keeps (fun _ => True) _ w5 := Keeps.of_grown hg2 fun b e _ _ => by cases e
 have blk5 := HB2.out.1.blk.keep hk5 trivial
 have d2 := blk5.c2
 have df := blk5.f 2
 have hvv : v'.ownBlock = (Value.slice none 0 0).ownBlock ∨ ∃ b, v'.ownBlock = some b ∧ ((w1.setCell ⟨q, 1, none⟩ (.int .i64 (g : Int))).setCell ⟨q, 2, none⟩ (.slice none 0 0)).heap.size ≤ b := by
  rcases hgb with hgb | hgb
  ·exact .inl hgb
  ·exact .inr ⟨_, hgb, by simp⟩
 have hput := HB2.out.1.put (v' := v') (xs' := [x]) hg2 hown hvv
 have HP := Lib.hid (show JLearnPost S w p q lq Fl (g : Int) (.slice none 0 0) [x] lst s (.returned (.tuple #[])) (w5.setCell ⟨q, 2, none⟩ v') from
  ⟨rfl, v', hput.1, (HK1.out.mono fun _ _ _ => trivial).trans ((HB1.out.mono fun _ _ hb => hb.2).trans (HB2.out.2.trans hput.2)), hvv.imp id fun ⟨b, h1, h2⟩ => ⟨b, h1, Nat.le_trans HK1.out.size (Nat.le_trans HB1.out.size (Nat.le_trans HB2.out.2.size h2))⟩⟩)
 clear hg hg2 hgb hk5 blk5 hput hvv HC1 c2 b1 f1 f2
 obtain ⟨g1, c1, rfl, -, -⟩ := hown.form (Nat.succ_pos _)
 clear hown
 go_wp2_with fail
 go_end0
 exact HP.out
end Go.Proofs.YticophaepapjoaaGreatDoor
