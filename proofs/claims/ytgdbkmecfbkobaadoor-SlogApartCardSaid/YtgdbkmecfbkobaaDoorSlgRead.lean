/-
  THE PROGRAM's LOG: Read.
-/
import Derived.Test.YtgdbkmecfbkobaaDoorSlgReads
namespace Go.Proofs.YtgdbkmecfbkobaaDoor
open Go Go.RowKit Go.Joins

set_option maxRecDepth 100000 in
set_option maxHeartbeats 2000000 in
theorem lread_any (w : World) (hT : Taken w) (q : Nat) (Fs : Foot) (p i n : Nat) (ks : List Seg) (sl left nx : Nat) (tl : List UInt8) (K T : Value) (Es : List Value) (h : LogAt w q Fs p i n ks sl left nx tl K T Es) (F : Foot) (s : SDev) (hd : DAt w p F s)
    (hg : ∀ sg ∈ ks, Good s.now i n sg) (hrise : ks.Pairwise fun a b => a.end_ ≤ b.first) (hn : n ≤ 200) (hin : i + 8 * n ≤ s.now.length) (t : Nat) (ht : t < ks.length) (sg : Seg) (hsg : ks[t] = sg) (j : Nat) (hj : j < sg.recs.length) (z : Int) (hz : z = ((sg.first + j : Nat) : Int)) :
    Calls Tryd.prog 15 #[.pointer (some ⟨q, 0, none⟩), .int .i64 z] w fun e w' => ∃ v, e = .returned (.tuple #[v, .int .i64 0]) ∧ BodyV w w' v (sg.recs[j]).body ∧ Kp w w' := by
  have hsm := hd.ok.small
  have HDN := Lib.hid (down_no w q p i n h.head)
  have HBD := Lib.hid (fun (w' : World) (hk : Kp w w') (sg : Seg) (E : Value) (hm : sg ∈ ks) (hE : SegV w' Fs.M sg E) (j : Nat) (hj : j < sg.recs.length) => body_any w' (hT.keep hk) q p i n (h.head.keep hk trivial) F s (hd.keep (hk.mono fun _ _ _ => trivial)) sg E Fs.M hE (hg sg hm).ok (hg sg hm).on (by omega) (by have := (hg sg hm).slot; omega) (hg sg hm).first (by have := (hg sg hm).slot; omega) j hj)
  have HGC := Lib.hid (fun (k : Nat) (hk : k < ks.length) => (show (ks[k]).recs.length ≤ 212 ∧ (ks[k]).first ≤ 274877906943 from ⟨(hg _ (List.getElem_mem hk)).ok.count, (hg _ (List.getElem_mem hk)).first⟩))
  have HRI := Lib.hid (fun (k : Nat) (hkl : k < ks.length) (hk : k < t) => (show (ks[k]).first + (ks[k]).recs.length ≤ sg.first from by rw [← hsg]; exact List.pairwise_iff_getElem.1 hrise k t hkl ht hk))
  obtain ⟨A, c, rfl, hlc, hcm, hs⟩ := h.segs
  unfold maxLen at hcm
  have c3 := (cell_of_block h.blk 3).trans rfl
  have HSG := Lib.hid hs
  have HHT := Lib.hid ht
  obtain ⟨f, hf⟩ : ∃ f, sg.first = f := ⟨_, rfl⟩
  have HSGT := Lib.hid hsg
  have hgt1 : j < 212 := Nat.lt_of_lt_of_le hj (by rw [← hsg]; exact (HGC.out t ht).1)
  have hf2 : f ≤ 274877906943 := by rw [← hf, ← hsg]; exact (HGC.out t ht).2
  have hzf : z = (f : Int) + (j : Int) := by rw [hz, hf]; omega
  have HF := Lib.hid hf
  have HJ := Lib.hid hj
  clear h hs hT hd hg hrise hz hf hsg
  subst hzf
  go_enter Tryd.func15, Tryd.ntmps15
  go_wp2_with fail
  refine HDN.out.mono ?_
  rintro e w' ⟨rfl, rfl⟩
  go_wp2_with fail
  go_loopw [17] (fun vk wr => ∃ k : Nat, k ≤ t ∧ vk = .int .i64 k ∧ Kp w wr) (fun vk _ => ks.length - (intOf vk).toNat)
  case atStart => exact ⟨0, Nat.zero_le _, rfl, Keeps.refl _ _⟩
  case round =>
    obtain ⟨k, hk, rfl, hkp⟩ := hrel
    have hlt : k < ks.length := by omega
    obtain ⟨b, o, E, rfl, hbM, d0, d1, d2, hE⟩ := (HSG.out.keep (hkp.mono fun _ _ _ => trivial)) k hlt
    obtain ⟨AE, cE, rfl, -⟩ := hE.ex
    have HE := Lib.hid hE
    have HK := Lib.hid hkp
    have HMEM := Lib.hid (List.getElem_mem hlt)
    have HGK := Lib.hid (HGC.out k hlt)
    have HRK := Lib.hid (HRI.out k hlt)
    have HTK := Lib.hid (show ∀ e : k = t, ks[k] = sg from fun e => by subst e; exact HSGT.out)
    generalize ks[k] = sk at d0 d1 d2 HE HMEM HGK HRK HTK
    obtain ⟨m, hm⟩ : ∃ m, sk.recs.length = m := ⟨_, rfl⟩
    obtain ⟨fk, hfk⟩ : ∃ fk, sk.first = fk := ⟨_, rfl⟩
    have HM := Lib.hid hm
    have HFK := Lib.hid hfk
    have hgk1 : m ≤ 212 := by subst hm; exact HGK.out.1
    have hgk2 : fk ≤ 274877906943 := by subst hfk; exact HGK.out.2
    rw [hm] at d2
    rw [hfk] at d1
    have hcs : (k < t ∧ fk + m ≤ f) ∨ k = t := by
      rcases Nat.lt_or_ge k t with h | h
      · left; refine ⟨h, ?_⟩
        have := HRK.out h
        rw [hm, hfk, HF.out] at this; exact this
      · right; omega
    have HNX := Lib.hid (fun w' => snext_any w' sk.slot fk AE m cE (by omega) (by omega))
    have HK2 := Lib.hid (show Kp wr (wr.alloc (.cells #[.int .i64 (sk.slot : Int), .int .i64 (fk : Int), .slice AE m cE] 67)) from (Keeps.refl _ wr).alloc _)
    have HBX := Lib.hid (SBox.new wr sk.slot fk (.slice AE m cE))
    obtain ⟨w0, hw0⟩ : ∃ w0, wr.alloc (.cells #[.int .i64 (sk.slot : Int), .int .i64 (fk : Int), .slice AE m cE] 67) = w0 := ⟨_, rfl⟩
    have HW0 := Lib.hid hw0
    rw [hw0] at HK2 HBX
    clear hE hkp hm hfk hw0
    rcases hcs with ⟨hkt, hle⟩ | rfl
    · have t1 : decide ((f : Int) + (j : Int) < (fk : Int)) = false := by simp; omega
      have t2 : decide ((fk : Int) + (m : Int) ≤ (f : Int) + (j : Int)) = true := by simp; omega
      generalize sk.slot = ss at d0 HNX HBX HW0
      go_wp2_with fail
      rw [HW0.out]
      refine (HNX.out w0).mono ?_
      rintro e' w1 ⟨rfl, hk1⟩
      have HK1 := Lib.hid (HK.out.trans (HK2.out.trans hk1))
      clear hk1
      go_wp2_with fail
      go_roundw
      case rel => exact ⟨k + 1, by omega, by go_num, HK1.out⟩
      case measure => simp [intOf]; omega
    · obtain rfl : sk = sg := HTK.out rfl
      obtain rfl : fk = f := HFK.out.symm.trans HF.out
      have t1 : decide ((fk : Int) + (j : Int) < (fk : Int)) = false := by simp; omega
      have hj2 : j < m := by rw [← HM.out]; exact HJ.out
      have t2 : decide ((fk : Int) + (m : Int) ≤ (fk : Int) + (j : Int)) = false := by simp; omega
      have q1 : (fk : Int) + (j : Int) - (fk : Int) = (j : Int) := by omega
      obtain ⟨y, hy⟩ : ∃ y, (sk.recs[j]'(HJ.out)).body = y := ⟨_, rfl⟩
      have HY := Lib.hid hy
      have hb := fun w1 (hk : Kp w0 w1) => (show Calls Tryd.prog 31 #[.pointer (some ⟨q, 0, none⟩), .agg #[.int .i64 (sk.slot : Int), .int .i64 (fk : Int), .slice AE m cE], .int .i64 (j : Int)] w1 fun e w' => ∃ b, e = .returned (.tuple #[b, .bool true]) ∧ BodyV w1 w' b y ∧ Kp w1 w' from by
        have h := HBD.out w1 (HK.out.trans (HK2.out.trans hk)) sk _ HMEM.out (HE.out.keep ((HK2.out.trans hk).mono fun _ _ _ => trivial)) j HJ.out
        rw [hy] at h
        have e1 := HM.out
        have e2 := HFK.out
        subst e1 e2
        exact h)
      have HB := Lib.hid hb
      clear hy
      generalize sk.slot = ss at d0 HNX HBX HW0 HB
      clear hb
      go_wp2_with fail
      rw [HW0.out]
      refine (HNX.out w0).mono ?_
      rintro e' w1 ⟨rfl, hk1⟩
      have hbx := HBX.out.keep hk1 trivial
      have e0 := hbx.s
      have e1 := hbx.f
      have e2 := hbx.e
      have HB1 := Lib.hid (HB.out w1 hk1)
      have HK1 := Lib.hid (HK.out.trans (HK2.out.trans hk1))
      clear hk1 hbx HB
      go_wp2_with fail
      refine HB1.out.mono ?_
      rintro e' w2 ⟨v, rfl, hbv, hk2⟩
      have H1 := Lib.hid (hbv.from (w0 := w) HK1.out.size)
      have H2 := Lib.hid (HK1.out.trans hk2)
      clear hbv hk2 e0 e1 e2
      go_wp2_with fail
      go_ret2
      exact ⟨_, rfl, by rw [HY.out]; exact H1.out, H2.out⟩

end Go.Proofs.YtgdbkmecfbkobaaDoor
