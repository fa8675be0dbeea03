/-
  ItemMade, SlgRead, IxLay, IxFit: texts of mine, joined.
-/
import Derived.Test.YticophaepapjoaaGreatDoorAllB25
import Derived.Test.YticophaepapjoaaGreatDoorAllB19
import Derived.Test.YticophaepapjoaaGreatDoorAllB15
import Derived.Test.YticophaepapjoaaGreatDoorAllB33
import Derived.Test.YticophaepapjoaaGreatDoorAllB30
import Derived.Test.YticophaepapjoaaGreatDoorAllB06
import Derived.Laws.OwnMore
open Go.Lib renaming hid → Hd
set_option maxRecDepth 100000
set_option maxHeartbeats 8000000
namespace Go.Proofs.YticophaepapjoaaGreatDoor
open Go Go.RowKit Go.Joins
theorem bytes_ahead {l m : List It} {r : List UInt8} (hl : l.all It.may = true) (hm : m.all It.may = true) (h : bytesOf m = bytesOf l ++ r) : ∃ n, m = l ++ n ∧ r = bytesOf n ∧ n.all It.may = true := by
 induction l generalizing m with
 | nil => exact ⟨m, rfl, by simpa [bytesOf] using h.symm, hm⟩
 | cons x l ih =>
  cases m with
  | nil =>
   have := x.bytes_pos
   rw [bytesOf_cons] at h
   have h2 := congrArg List.length h
   simp only [List.length_append, bytesOf, List.flatMap_nil, List.length_nil] at h2
   omega
  | cons y m =>
   rw [List.all_cons, Bool.and_eq_true] at hl hm
   rw [bytesOf_cons, bytesOf_cons, List.append_assoc] at h
   obtain ⟨rfl, e⟩ := It.bytes_inj hm.1 hl.1 h
   obtain ⟨n, rfl, e2, e3⟩ := ih hl.2 hm.2 e
   exact ⟨n, rfl, e2, e3⟩
theorem own_form4 {w : World} {base n size : Nat} {e : TypeId} {v : Value} {xs : List Value} (h : w.ownsRow base e size v n xs) : ∃ A c, v = .slice A n c := by
 rcases h.2 with ⟨rfl, h0⟩ | ⟨g, cap, cur, rfl, r⟩
 ·exact ⟨none, 0, by rw [h0]⟩
 ·exact ⟨_, _, rfl⟩
theorem idecode (w : World) (A : Option Addr) (c : Nat) (b : List UInt8) (h : Row w A (fun _ => True) (bcells b)) (hlc : b.length ≤ c) (hcm : c ≤ maxLen) (hl : b.length ≤ 1000000) :
  Calls Tryz.prog 120 #[.slice A b.length c] w fun e w' => Keeps (fun _ => True) w w' ∧
   ((∃ B k l, e = .returned (.tuple #[.slice B l.length k, .int .i64 0]) ∧ l ≠ [] ∧ l.all It.may = true ∧ bytesOf l = b ∧ l.length ≤ k ∧ k ≤ maxLen ∧ ItsAt w' B (fun b => w.heap.size ≤ b ∧ b < w'.heap.size) l ∧ Unfr w' B l.length) ∨
    ((∀ l : List It, l ≠ [] → l.all It.may = true → bytesOf l ≠ b) ∧ ∃ B k, e = .returned (.tuple #[.slice B 0 k, .int .i64 1]))) := by
 unfold maxLen at hcm
 have HH := Hd h
 obtain ⟨n, hn⟩ : ∃ n, b.length = n := ⟨_, rfl⟩
 have HN := Hd hn
 rw [hn] at hlc hl ⊢
 clear hn h
 go_enter Tryz.func120, Tryz.ntmps120
 go_wp2_with fail
 go_loopw [0, 4] (fun s v wr => ∃ (A1 : Option Addr) (m c1 : Nat) (l : List It) (r : List UInt8), s = .slice A1 m c1 ∧ RowKit.Hid (r.length = m) ∧ m ≤ c1 ∧ c1 ≤ c ∧ m ≤ n ∧ RowKit.Hid (b = bytesOf l ++ r) ∧ RowKit.Hid (l.all It.may = true) ∧ RowKit.Hid (Row w A1 (fun _ => True) (bcells r)) ∧
   RowKit.Hid (wr.ownsRow w.heap.size 40 4 v l.length (itCells l)) ∧ RowKit.Hid (Kp w wr)) (fun s _ _ => match s with | .slice _ m _ => m | _ => 0)
 case atStart => exact ⟨A, n, c, [], b, rfl, HN, hlc, Nat.le_refl _, Nat.le_refl _, Hd rfl, Hd rfl, HH, Hd (World.ownsRow_nil _ _ _ _), Hd (Keeps.refl _ _)⟩
 case round =>
  obtain ⟨A1, m, c1, l, r, rfl, hm, hmc, hcc, hmn, hbr, hall, hrow, hown, hkp⟩ := hrel
  have hll : l.length ≤ 1000000 := by
   have h1 := bytesOf_four l
   have h2 := congrArg List.length hbr.out
   rw [List.length_append, HN.out] at h2
   omega
  by_cases hpos : 0 < m
  ·have HD := Hd (show Calls Tryz.prog 152 #[.slice A1 m c1] wr fun e w' => Kp wr w' ∧ DecPost r e from by
    have := idecode1 wr A1 c1 r (hrow.out.keep hkp.out) (by rw [hm.out]; exact hmc) (by unfold maxLen; omega) (by rw [hm.out]; omega)
    rw [hm.out] at this
    exact this)
   have t1 : decide ((0 : Int) < (m : Int)) = true := by simp; omega
   go_wp2_with fail
   refine HD.out.mono ?_
   rintro e w1 ⟨hk1, (⟨x, r2, rfl, hx, hr2⟩ | ⟨er, he0, her, rfl, hno⟩)⟩
   ·have HX := Hd hx
    have HR2 := Hd hr2
    have hbl := It.bytes_len hx
    have hbp := x.bytes_pos
    have hxm := hm.out
    rw [hr2, List.length_append] at hxm
    obtain ⟨z, hz⟩ : ∃ z, x.bytes.length = z := ⟨_, rfl⟩
    have HZ := Hd hz
    rw [hz] at hbl hbp hxm
    obtain ⟨z2, hz2⟩ : ∃ z2, r2.length = z2 := ⟨_, rfl⟩
    have HZ2 := Hd hz2
    rw [hz2] at hxm
    rw [hz]
    have hzm : z ≤ m := by omega
    have hz2m : m - z = z2 := by omega
    have HK1 := Hd (hkp.out.trans hk1)
    have HOWN := Hd (hk1.own hown.out fun _ _ => trivial)
    have hsrc := src_item (w1.alloc (.cells #[.string x.key, .string x.val, .int .i64 x.till, .bool x.gone] 40)) x
    rw [show (w1.alloc (.cells #[.string x.key, .string x.val, .int .i64 x.till, .bool x.gone] 40)).heap.size = w1.heap.size + 1 by simp] at hsrc
    have HSRC := Hd hsrc
    clear hsrc
    obtain ⟨g, o, rfl, -, -⟩ := hrow.out.at_ (k := 0) (by rw [bcells_len, hm.out]; omega)
    have hsz := HK1.out.size
    have hl1 : l.length + 1 ≤ 1000001 := by omega
    obtain ⟨q, hq⟩ : ∃ q, l.length = q := ⟨_, rfl⟩
    have HQ := Hd hq
    rw [hq] at hl1 HOWN
    clear hz hz2 hx hr2 hk1 HD hq hll hown hkp
    go_wp2_with (at_builtin; refine item_elem.list_append rfl (.tmp 19) (.tmp 21) _ rfl rfl ((HOWN.out.alloc _).alloc _) rfl HSRC.out ?c3 ?c4 ?c5 ?_)
    case c3 => unfold maxLen; omega
    case c4 => omega
    case c5 => simp; omega
    intro v3 w3 ho3 hg3 hb3
    have hk3 : Kp w w3 := ((HK1.out.alloc _).alloc _).grown hg3 fun j hj => (HOWN.out.lt j hj).1
    have HK3 := Hd hk3
    have HO3 := Hd (show w3.ownsRow w.heap.size 40 4 v3 (l ++ [x]).length (itCells (l ++ [x])) from by
     rw [itCells_snoc, List.length_append, HQ.out]
     exact ho3)
    have HA3 := Hd (show (l ++ [x]).all It.may = true from by simp [hall.out, HX.out])
    have HB3 := Hd (show b = bytesOf (l ++ [x]) ++ r2 from by rw [bytesOf_snoc, List.append_assoc, ← HR2.out]; exact hbr.out)
    have HD2 := Hd (show r.drop z = r2 from by rw [HR2.out, ← HZ.out]; exact List.drop_left)
    clear hk3 ho3 hg3 hb3 HSRC HOWN HK1
    by_cases hcz : c1 = z
    ·have hmz : m = z := by omega
     subst hcz
     have HMZ := Hd hmz
     clear hmz
     go_wp2_with fail
     go_roundw
     case rel => exact ⟨_, _, _, l ++ [x], r2, rfl, Hd (by have := HZ2.out; have := HMZ.out; omega), by omega, by omega, by omega, HB3, HA3, Hd (by rw [List.eq_nil_of_length_eq_zero (show r2.length = 0 by have := HZ2.out; have := HMZ.out; omega)]; exact Row.nil _ _ _), HO3, HK3⟩
     case measure => have := HMZ.out; simp; omega
    ·have HROW := Hd (cut_row hrow.out hm.out hzm hmc hcz)
     rw [HD2.out] at HROW
     have hnz : ¬ c1 = z := hcz
     have hzc : z ≤ c1 := by omega
     go_wp2_with fail
     go_roundw
     case rel => exact ⟨_, _, _, l ++ [x], r2, rfl, Hd (by have := HZ2.out; omega), by omega, by omega, by omega, HB3, HA3, HROW, HO3, HK3⟩
     case measure => simp; omega
   ·have HNO := Hd hno
    have t2 : ((er : Int) != 0) = true := by simp; omega
    have HK1 := Hd (hkp.out.trans hk1)
    clear hno hk1 HD
    go_wp2_with fail
    go_ret2
    refine ⟨HK1.out.alloc _, .inr ⟨fun l' hne hall' hb' => ?_, none, 0, rfl⟩⟩
    obtain ⟨n', rfl, hr', hn'⟩ := bytes_ahead hall.out hall' (hb'.trans hbr.out)
    cases n' with
    | nil =>
     have := hm.out
     rw [hr'] at this
     simp [bytesOf] at this
     omega
    | cons y n' =>
     rw [List.all_cons, Bool.and_eq_true] at hn'
     exact HNO.out y _ hn'.1 (hr'.trans (bytesOf_cons _ _))
  ·obtain rfl : m = 0 := by omega
   have hr0 : r = [] := List.eq_nil_of_length_eq_zero hm.out
   by_cases hl0 : l = []
   ·have HL0 := Hd hl0
    subst hl0
    obtain ⟨A2, c2, rfl⟩ := own_form4 hown.out
    go_wp2_with fail
    go_ret2
    refine ⟨hkp.out, .inr ⟨fun l' hne hall' hb' => ?_, none, 0, rfl⟩⟩
    have := bytesOf_pos hne
    rw [hb', hbr.out, hr0] at this
    simp [bytesOf] at this
   ·have hlp := List.length_pos_iff.2 hl0
    obtain ⟨g2, c2, rfl, -, -⟩ := hown.out.form hlp
    have HOWN := hown.out
    have t2 : ((l.length : Int) == 0) = false := by simp; omega
    have HL := Hd (own_room HOWN)
    have HI := Hd (ItsAt.of_own HOWN rfl)
    have HU := Hd (Unfr.own HOWN)
    have HL0 := Hd hl0
    have HR0 := Hd hr0
    clear hl0 HOWN hr0
    go_wp2_with fail
    go_ret2
    exact ⟨hkp.out, .inl ⟨_, c2, l, rfl, HL0.out, hall.out, by rw [hbr.out, HR0.out, List.append_nil], HL.out.1, HL.out.2, HI.out, HU.out⟩⟩
def theItems : ItemOK where
 T := fun _ => True
 tk := fun _ _ => trivial
 may := fun w x _ hx => imay w x hx
 live := fun w x now _ hx h1 h2 => ilive w x hx now h1 h2
 encode := fun w A c l _ hA hl hc hn hf => iencode w A c l hA hl hc hn hf
 decode := fun w A c b _ h h1 h2 h3 => (idecode w A c b h h1 h2 h3).mono fun _e _w' hh => ⟨hh.1, hh.2.imp (fun ⟨B, k, l, e1, e2, e3, e4, e5, e6, e7, _⟩ => ⟨B, k, l, e1, e2, e3, e4, e5, e6, e7⟩) id⟩
theorem lread_any (w : World) (hT : Taken w) (q : Nat) (Fs : Foot) (p i n : Nat) (ks : List Seg) (sl left nx : Nat) (tl : List UInt8) (K T : Value) (Es : List Value) (h : LogAt w q Fs p i n ks sl left nx tl K T Es) (F : Foot) (s : SDev) (hd : DAt w p F s)
  (hg : ∀ sg ∈ ks, Good s.now i n sg) (hrise : ks.Pairwise fun a b => a.end_ ≤ b.first) (hn : n ≤ 200) (hin : i + 8 * n ≤ s.now.length) (t : Nat) (ht : t < ks.length) (sg : Seg) (hsg : ks[t] = sg) (j : Nat) (hj : j < sg.recs.length) (z : Int) (hz : z = ((sg.first + j : Nat) : Int)) :
  Calls Tryz.prog 85 #[.pointer (some ⟨q, 0, none⟩), .int .i64 z] w fun e w' => ∃ v, e = .returned (.tuple #[v, .int .i64 0]) ∧ BodyV w w' v (sg.recs[j]).body ∧ Kp w w' := by
 have hsm := hd.ok.small
 have HDN := Hd (down_no w q p i n h.head)
 have HBD := Hd (fun (w' : World) (hk : Kp w w') (sg : Seg) (E : Value) (hm : sg ∈ ks) (hE : SegV w' Fs.M sg E) (j : Nat) (hj : j < sg.recs.length) => body_any w' (hT.keep hk) q p i n (h.head.keep hk trivial) F s (hd.keep (hk.mono fun _ _ _ => trivial)) sg E Fs.M hE (hg sg hm).ok (hg sg hm).on (by omega) (by have := (hg sg hm).slot; omega) (hg sg hm).first (by have := (hg sg hm).slot; omega) j hj)
 have HGC := Hd (fun (k : Nat) (hk : k < ks.length) => (show (ks[k]).recs.length ≤ 212 ∧ (ks[k]).first ≤ 274877906943 from ⟨(hg _ (List.getElem_mem hk)).ok.count, (hg _ (List.getElem_mem hk)).first⟩))
 have HRI := Hd (fun (k : Nat) (hkl : k < ks.length) (hk : k < t) => (show (ks[k]).first + (ks[k]).recs.length ≤ sg.first from by rw [← hsg]; exact List.pairwise_iff_getElem.1 hrise k t hkl ht hk))
 obtain ⟨A, c, rfl, hlc, hcm, hs⟩ := h.segs
 unfold maxLen at hcm
 have c3 := (cell_of_block h.blk 3).trans rfl
 have HSG := Hd hs
 have HHT := Hd ht
 obtain ⟨f, hf⟩ : ∃ f, sg.first = f := ⟨_, rfl⟩
 have HSGT := Hd hsg
 have hgt1 : j < 212 := Nat.lt_of_lt_of_le hj (by rw [← hsg]; exact (HGC.out t ht).1)
 have hf2 : f ≤ 274877906943 := by rw [← hf, ← hsg]; exact (HGC.out t ht).2
 have hzf : z = (f : Int) + (j : Int) := by rw [hz, hf]; omega
 have HF := Hd hf
 have HJ := Hd hj
 clear h hs hT hd hg hrise hz hf hsg
 subst hzf
 go_enter Tryz.func85, Tryz.ntmps85
 go_wp2_with fail
 refine HDN.out.mono ?_
 rintro e w' ⟨rfl, rfl⟩
 go_wp2_with fail
 go_loopw [17] (fun vk wr => ∃ k : Nat, k ≤ t ∧ vk = .int .i64 k ∧ Kp w wr) (fun vk _ => ks.length - (intOf vk).toNat)
 case atStart => exact ⟨0, Nat.zero_le _, rfl, Keeps.refl _ _⟩
 case round =>
  obtain ⟨k, hk, rfl, hkp⟩ := hrel
  have hlt : k < ks.length := by omega
  obtain ⟨b, o, E, rfl, hbM, d0, d1, d2, hE⟩ := (HSG.out.keep (hkp.mono fun _ _ _ => trivial)) k hlt
  obtain ⟨AE, cE, rfl, -⟩ := hE.ex
  have HE := Hd hE
  have HK := Hd hkp
  have HMEM := Hd (List.getElem_mem hlt)
  have HGK := Hd (HGC.out k hlt)
  have HRK := Hd (HRI.out k hlt)
  have HTK := Hd (show ∀ e : k = t, ks[k] = sg from fun e => by subst e; exact HSGT.out)
  generalize ks[k] = sk at d0 d1 d2 HE HMEM HGK HRK HTK
  obtain ⟨m, hm⟩ : ∃ m, sk.recs.length = m := ⟨_, rfl⟩
  obtain ⟨fk, hfk⟩ : ∃ fk, sk.first = fk := ⟨_, rfl⟩
  have HM := Hd hm
  have HFK := Hd hfk
  have hgk1 : m ≤ 212 := by subst hm; exact HGK.out.1
  have hgk2 : fk ≤ 274877906943 := by subst hfk; exact HGK.out.2
  rw [hm] at d2
  rw [hfk] at d1
  have hcs : (k < t ∧ fk + m ≤ f) ∨ k = t := by
   rcases Nat.lt_or_ge k t with h | h
   ·left; refine ⟨h, ?_⟩
    have := HRK.out h
    rw [hm, hfk, HF.out] at this; exact this
   ·right; omega
  have HNX := Hd (fun w' => snext_any w' sk.slot fk AE m cE (by omega) (by omega))
  have HK2 := Hd (show Kp wr (wr.alloc (.cells #[.int .i64 (sk.slot : Int), .int .i64 (fk : Int), .slice AE m cE] 179)) from (Keeps.refl _ wr).alloc _)
  have HBX := Hd (SBox.new wr sk.slot fk (.slice AE m cE))
  obtain ⟨w0, hw0⟩ : ∃ w0, wr.alloc (.cells #[.int .i64 (sk.slot : Int), .int .i64 (fk : Int), .slice AE m cE] 179) = w0 := ⟨_, rfl⟩
  have HW0 := Hd hw0
  rw [hw0] at HK2 HBX
  clear hE hkp hm hfk hw0
  rcases hcs with ⟨hkt, hle⟩ | rfl
  ·have t1 : decide ((f : Int) + (j : Int) < (fk : Int)) = false := by simp; omega
   have t2 : decide ((fk : Int) + (m : Int) ≤ (f : Int) + (j : Int)) = true := by simp; omega
   generalize sk.slot = ss at d0 HNX HBX HW0
   go_wp2_with fail
   rw [HW0.out]
   refine (HNX.out w0).mono ?_
   rintro e' w1 ⟨rfl, hk1⟩
   have HK1 := Hd (HK.out.trans (HK2.out.trans hk1))
   clear hk1
   go_wp2_with fail
   go_roundw
   case rel => exact ⟨k + 1, by omega, by go_num, HK1.out⟩
   case measure => simp [intOf]; omega
  ·obtain rfl : sk = sg := HTK.out rfl
   obtain rfl : fk = f := HFK.out.symm.trans HF.out
   have t1 : decide ((fk : Int) + (j : Int) < (fk : Int)) = false := by simp; omega
   have hj2 : j < m := by rw [← HM.out]; exact HJ.out
   have t2 : decide ((fk : Int) + (m : Int) ≤ (fk : Int) + (j : Int)) = false := by simp; omega
   have q1 : (fk : Int) + (j : Int) - (fk : Int) = (j : Int) := by omega
   obtain ⟨y, hy⟩ : ∃ y, (sk.recs[j]'(HJ.out)).body = y := ⟨_, rfl⟩
   have HY := Hd hy
   have hb := fun w1 (hk : Kp w0 w1) => (show Calls Tryz.prog 119 #[.pointer (some ⟨q, 0, none⟩), .agg #[.int .i64 (sk.slot : Int), .int .i64 (fk : Int), .slice AE m cE], .int .i64 (j : Int)] w1 fun e w' => ∃ b, e = .returned (.tuple #[b, .bool true]) ∧ BodyV w1 w' b y ∧ Kp w1 w' from by
    have h := HBD.out w1 (HK.out.trans (HK2.out.trans hk)) sk _ HMEM.out (HE.out.keep ((HK2.out.trans hk).mono fun _ _ _ => trivial)) j HJ.out
    rw [hy] at h
    have e1 := HM.out
    have e2 := HFK.out
    subst e1 e2
    exact h)
   have HB := Hd hb
   clear hy
   generalize sk.slot = ss at d0 HNX HBX HW0 HB
   clear hb
   go_wp2_with fail
   rw [HW0.out]
   refine (HNX.out w0).mono ?_
   rintro e' w1 ⟨rfl, hk1⟩
   have hbx := HBX.out.keep hk1 trivial
   have e0 := hbx.s
   have e1 := hbx.f
   have e2 := hbx.e
   have HB1 := Hd (HB.out w1 hk1)
   have HK1 := Hd (HK.out.trans (HK2.out.trans hk1))
   clear hk1 hbx HB
   go_wp2_with fail
   refine HB1.out.mono ?_
   rintro e' w2 ⟨v, rfl, hbv, hk2⟩
   have H1 := Hd (hbv.from (w0 := w) HK1.out.size)
   have H2 := Hd (HK1.out.trans hk2)
   clear hbv hk2 e0 e1 e2
   go_wp2_with fail
   go_ret2
   exact ⟨_, rfl, by rw [HY.out]; exact H1.out, H2.out⟩
def SlsAt (w : World) (B : Option Addr) (G : Nat → Prop) (l : List Sl) : Prop := ∀ k (h : k < l.length), ∃ b o, B = some ⟨b, o, none⟩ ∧ G b ∧ w.cell? ⟨b, o + k * 4, none⟩ = some (.string l[k].key) ∧
 w.cell? ⟨b, o + k * 4 + 1, none⟩ = some (.int .u64 l[k].hash) ∧ w.cell? ⟨b, o + k * 4 + 2, none⟩ = some (.int .i64 l[k].pos) ∧ w.cell? ⟨b, o + k * 4 + 3, none⟩ = some (.bool l[k].full)
theorem slC_at (l : List Sl) (j i : Nat) (hj : j < l.length) (hi : i < 4) : (slC l)[j * 4 + i]? = (l[j].cells)[i]? := by
 induction l generalizing j with
 | nil => simp at hj
 | cons r l ih =>
  have e : slC (r :: l) = r.cells ++ slC l := by simp [slC]
  rw [e]
  cases j with
  | zero =>
   rw [Nat.zero_mul, Nat.zero_add, List.getElem?_append_left (by show i < 4; exact hi)]
   rfl
  | succ j =>
   rw [List.getElem?_append_right (by show 4 ≤ _; omega), show (j + 1) * 4 + i - r.cells.length = j * 4 + i by show (j + 1) * 4 + i - 4 = _; omega, ih j (by simpa using hj)]
   rfl
section
variable {w w' : World} {B : Option Addr} {F G : Nat → Prop} {l : List Sl}
theorem SlsAt.keep (h : SlsAt w B F l) (hk : Keeps F w w') : SlsAt w' B F l := fun k hl => by
 obtain ⟨b, o, e, hF, c0, c1, c2, c3⟩ := h k hl
 exact ⟨b, o, e, hF, hk.cell c0 hF, hk.cell c1 hF, hk.cell c2 hF, hk.cell c3 hF⟩
theorem SlsAt.mono (h : SlsAt w B F l) (hF : ∀ b, b < w.heap.size → F b → G b) : SlsAt w B G l := fun k hl => by
 obtain ⟨b, o, e, hFb, c0, c1, c2, c3⟩ := h k hl
 exact ⟨b, o, e, hF b (World.block_lt_of_cell? w _ c0) hFb, c0, c1, c2, c3⟩
theorem SlsAt.of_own {base n c : Nat} {e : TypeId} (h : w.ownsRow base e 4 (.slice B n c) n (slC l)) (hn : n = l.length) : SlsAt w B (fun b => base ≤ b ∧ b < w.heap.size) l := by
 intro k hk
 obtain ⟨g, cap, e, hb, -⟩ := h.form (by omega)
 injection e with e1 e2 e3
 subst e1
 have hc := h.cells (g := g) rfl
 have cell : ∀ i v, i < 4 → (l[k].cells)[i]? = some v → w.cell? ⟨g, 0 + k * 4 + i, none⟩ = some v := fun i v hi hv => by
  have := hc (k * 4 + i) v (by rw [slC_at l k i hk hi]; exact hv)
  rw [WideShapes.add_plain] at this
  rw [Nat.add_assoc]; exact this
 exact ⟨g, 0, rfl, h.lt g rfl, by simpa using cell 0 _ (by decide) rfl, cell 1 _ (by decide) rfl, cell 2 _ (by decide) rfl, cell 3 _ (by decide) rfl⟩
end
def tabC (T : Tab) (n : Nat) : List Value := (List.range (n * 4)).map (tabV T)
theorem TabAt.of_own {w : World} {base n g : Nat} {e : TypeId} {T : Tab} (h : w.ownsRow base e 4 (.slice (some ⟨g, 0, none⟩) n n) n (tabC T n)) (_hn : 0 < n) : TabAt w g n T ∧ base ≤ g := by
 have hc := h.cells (g := g) rfl
 have hb := h.lt g rfl
 refine ⟨⟨fun m hm => ?_, fun m => h.frozenAt m, hb.2⟩, hb.1⟩
 have := hc m (tabV T m) (by unfold tabC; rw [List.getElem?_map, List.getElem?_range (by omega)]; rfl)
 rw [WideShapes.add_plain, Nat.zero_add] at this
 exact this
theorem made_tab (n : Nat) : (madeCells (Value.agg #[.string ⟨#[]⟩, .int .u64 0, .int .i64 0, .bool false]).cells (n * 4)).toList = tabC (fun _ => Sl.zero) n := by
 unfold madeCells tabC
 rw [Array.toList_map, Array.toList_range]
 refine List.map_congr_left fun i _ => ?_
 have hz : (Value.agg #[.string ⟨#[]⟩, .int .u64 0, .int .i64 0, .bool false]).cells = #[.string ⟨#[]⟩, .int .u64 0, .int .i64 0, .bool false] := rfl
 rw [hz]
 have e : (#[.string ⟨#[]⟩, .int .u64 0, .int .i64 0, .bool false] : Array Value).size = 4 := rfl
 rw [e]
 unfold tabV
 have h4 : i % 4 = 0 ∨ i % 4 = 1 ∨ i % 4 = 2 ∨ i % 4 = 3 := by omega
 rcases h4 with h | h | h | h <;> rw [h] <;> rfl
def kv (s : Sl) : ByteArray × Int := (s.key, s.pos)
theorem tab_zero (n : Nat) (h : 0 < n) : TabOk hashN (fun _ => Sl.zero) n [] := by
 have e : ents (fun _ => Sl.zero) n = [] := by
  unfold ents
  rw [List.flatMap_eq_nil_iff]
  intro i _
  rfl
 exact ⟨by rw [e], by simp, fun i _ hf => absurd (show false = true from hf) (by decide), fun i _ hf => absurd (show false = true from hf) (by decide), h⟩
theorem kv_take (l : List Sl) (j : Nat) (hj : j < l.length) : (l.take (j + 1)).map kv = (l.take j).map kv ++ [(l[j].key, l[j].pos)] := by
 rw [List.take_succ_eq_append_getElem hj, List.map_append]; rfl
theorem kv_none {l : List Sl} (hnd : ((l.map kv).map (·.1)).Nodup) {j : Nat} (hj : j < l.length) : ixGet ((l.take j).map kv) l[j].key = none := by
 rw [ixGet_none]
 intro x hx e
 obtain ⟨s, hs, rfl⟩ := List.mem_map.1 hx
 obtain ⟨i, hi, rfl⟩ := List.getElem_of_mem hs
 rw [List.length_take] at hi
 rw [List.getElem_take] at e
 have e : (l[i]'(by omega)).key = l[j].key := e
 rw [List.map_map] at hnd
 have h2 := List.pairwise_iff_getElem.1 hnd i j (by rw [List.length_map]; omega) (by rw [List.length_map]; exact hj) (by omega)
 rw [List.getElem_map, List.getElem_map] at h2
 exact h2 e
theorem lay_any (w : World) (q : Nat) (V : Value) (c : Nat) (hI : IxBlk w q V c) (B : Option Addr) (k : Nat) (l : List Sl) (hl : SlsAt w B (fun b => b ≠ q) l) (hn : l.length ≤ 68719476736) (hok : ∀ s ∈ l, s.full = true ∧ s.hash = (hashN s.key : Int)) (hnd : ((l.map kv).map (·.1)).Nodup) :
  Calls Tryz.prog 109 #[.pointer (some ⟨q, 0, none⟩), .slice B l.length k] w fun e w' => e = .returned (.tuple #[]) ∧ ∃ (g n : Nat) (T : Tab), IxAt w' q g n l.length T ∧ TabOk hashN T n (l.map kv) ∧ 2 * (l.length + 1) ≤ n ∧ (n = 8 ∨ n < 4 * (l.length + 1)) ∧ w.heap.size ≤ g ∧ Keeps (fun b => b ≠ q) w w' := by
 have HI := Hd hI
 have HL := Hd hl
 have HOK := Hd hok
 have HND := Hd hnd
 obtain ⟨m, hm⟩ : ∃ m, l.length = m := ⟨_, rfl⟩
 have HM := Hd hm
 rw [hm] at hn ⊢
 clear hI hl hok hnd hm
 go_enter Tryz.func109, Tryz.ntmps109
 go_wp2_with fail
 go_loopw [4] (fun i wr => ∃ n : Nat, i = .int .i64 (n : Int) ∧ 8 ≤ n ∧ (n = 8 ∨ n < 4 * (m + 1)) ∧ wr = w) (fun i _ => 4 * (m + 1) + 8 - (intOf i).toNat)
 case atStart => exact ⟨8, rfl, Nat.le_refl _, .inl rfl, rfl⟩
 case round =>
  obtain ⟨n, rfl, h8, hnn, rfl⟩ := hrel
  by_cases hlt : n < 2 * (m + 1)
  ·have hlt' : (n : Int) < 2 * ((m : Int) + 1) := by omega
   go_wp2_with fail
   go_roundw
   case rel => exact ⟨n * 2, by go_num, by omega, by omega, trivial⟩
   case measure => simp [intOf]; omega
  ·have hlt' : ¬ (n : Int) < 2 * ((m : Int) + 1) := by omega
   obtain ⟨W, rfl⟩ : ∃ W, W = wr := ⟨wr, rfl⟩
   have c0 := HI.out.c0
   have c1 := HI.out.c1
   have ff := HI.out.f0
   go_wp2_with (refine list_make rfl (.tmp 16) (.tmp 16) 127 rfl slot_elem .i64 .i64 n rfl rfl (by omega) (by unfold maxLen; omega) (tabC (fun _ => Sl.zero) n) (made_tab n) ?_)
   intro w1 hown hg
   have hn0 : 0 < n := by omega
   obtain ⟨hta, -⟩ := TabAt.of_own hown hn0
   have hk1 : Kp W w1 := Keeps.of_grown hg fun _ h => by cases h
   have HI1 := Hd (HI.out.keep hk1 trivial)
   have HTA := Hd hta
   have HK1 := Hd hk1
   have hq := HI.out.lt
   have hsz : W.heap.size < w1.heap.size := hta.lt
   have hq1 : q < w1.heap.size := by omega
   have d0 := HI1.out.c0
   have d1 := HI1.out.c1
   have f1 := HI1.out.f0
   clear hta hk1 hown hg c0 c1 ff
   go_wp2_with fail
   have hfin : IxAt ((w1.setCell ⟨q, 0, none⟩ (.slice (some ⟨W.heap.size, 0, none⟩) n n)).setCell ⟨q, 1, none⟩ (.int .i64 0)) q W.heap.size n 0 (fun _ => Sl.zero) :=
    ⟨(HI1.out.set0 _).set1 0, HTA.out.keep (((Keeps.refl (fun b => b ≠ q) w1).setCell (p := ⟨q, 0, none⟩) (.inr fun e => e rfl) _).setCell (p := ⟨q, 1, none⟩) (.inr fun e => e rfl) _) (by omega), by omega⟩
   have hkp : Keeps (fun b => b ≠ q) W ((w1.setCell ⟨q, 0, none⟩ (.slice (some ⟨W.heap.size, 0, none⟩) n n)).setCell ⟨q, 1, none⟩ (.int .i64 0)) :=
    (((HK1.out.mono fun _ _ _ => trivial).setCell (p := ⟨q, 0, none⟩) (.inr fun e => e rfl) _).setCell (p := ⟨q, 1, none⟩) (.inr fun e => e rfl) _)
   have HF := Hd hfin
   have HKP := Hd hkp
   clear hfin hkp HI1 HTA HK1 d0 d1 f1
   generalize ((w1.setCell ⟨q, 0, none⟩ (.slice (some ⟨W.heap.size, 0, none⟩) n n)).setCell ⟨q, 1, none⟩ (.int .i64 0)) = w2 at HF HKP ⊢
   go_loopw [25] (fun i wr => ∃ (j : Nat) (T : Tab), j ≤ m ∧ i = .int .i64 (j : Int) ∧ Hid (IxAt wr q W.heap.size n j T) ∧ Hid (TabOk hashN T n ((l.take j).map kv)) ∧ Hid (Keeps (fun b => b ≠ q) W wr)) (fun i _ => m - (intOf i).toNat)
   case atStart => exact ⟨0, _, Nat.zero_le _, rfl, HF, Hd (tab_zero n hn0), HKP⟩
   case round =>
    clear HF HKP
    obtain ⟨j, T, hj, rfl, HA, HT, HK⟩ := hrel
    by_cases hjm : j < m
    ·have hjm' : (j : Int) < (m : Int) := by omega
     have hjl : j < l.length := by rw [HM.out]; exact hjm
     have HS3 := Hd ((HL.out.mono (G := fun b => b ≠ q) fun _ _ h => h).keep HK.out)
     obtain ⟨b, o, rfl, hbq, t0, t1, t2, t3⟩ := HS3.out j hjl
     obtain ⟨hs1, hs2⟩ := HOK.out _ (List.getElem_mem hjl)
     rw [hs1] at t3
     rw [hs2] at t1
     have HN := Hd (kv_none HND.out hjl)
     have HTK := Hd (kv_take l j hjl)
     generalize l[j].key = K at t0 t1 HN HTK
     generalize l[j].pos = P at t2 HTK
     have HADD := Hd (fun (w4 : World) (h : Kp wr w4) => add_any w4 q W.heap.size n j T _ (HA.out.keep h trivial trivial) HT.out (by omega) (by omega) K P HN.out (by rw [List.length_map, List.length_take, HM.out]; omega))
     clear hs1 hs2
     go_wp2_with fail
     refine (show Calls _ _ _ _ _ from HADD.out _ ((Keeps.refl _ wr).alloc _)).mono ?_
     rintro e w5 ⟨rfl, T', hA5, hT5, hk5⟩
     have HT5 := Hd (show TabOk hashN T' n ((l.take (j + 1)).map kv) from by rw [HTK.out]; exact hT5)
     have HK5 := Hd (show Keeps (fun b => b ≠ q) W w5 from by
      refine ⟨hk5.os.trans HK.out.os, hk5.tape.trans HK.out.tape, hk5.output.trans HK.out.output, ?_, fun b hb hlt => ?_⟩
      ·have h1 := HK.out.size
       have h2 := hk5.size
       simp at h2
       omega
      ·have h1 := HK.out.size
       have hlt3 : b < wr.heap.size := Nat.lt_of_lt_of_le hlt h1
       refine (hk5.block b ⟨hb, by omega⟩ (by simp; omega)).trans ?_
       exact (Below.heap_alloc wr _ b hlt3).trans (HK.out.block b hb hlt))
     have HA5 := Hd hA5
     clear hA5 hT5 hk5 HADD
     go_wp2_with fail
     go_roundw
     case rel => exact ⟨j + 1, T', hjm, by go_num, HA5, HT5, HK5⟩
     case measure => simp [intOf]; omega
    ·obtain rfl : m = j := by omega
     have hjm' : ¬ (m : Int) < (m : Int) := by omega
     go_wp2_with fail
     go_end0
     have e : l.take m = l := by rw [← HM.out]; exact List.take_length
     have h := HT.out
     rw [e] at h
     exact ⟨rfl, _, n, T, HA.out, h, by omega, hnn, Nat.le_refl _, HK.out⟩
theorem from_below (T : Tab) (p : Int) (n : Nat) : (fromL T p n).map kv = ixBelow (ents T n) p := by
 induction n with
 | zero => rfl
 | succ n ih =>
  rw [fromL_succ, List.map_append, ih, ents_succ]
  unfold ixBelow
  rw [List.filter_append]
  congr 1
  unfold ent
  cases (T n).full
  ·simp
  ·by_cases h : p ≤ (T n).pos <;> simp [h, kv]
theorem from_ok {T : Tab} {n : Nat} {st : IxSt} (H : TabOk hashN T n st) (p : Int) : (∀ s ∈ fromL T p n, s.full = true ∧ s.hash = (hashN s.key : Int)) ∧ (((fromL T p n).map kv).map (·.1)).Nodup ∧ ((fromL T p n).map kv).Perm (ixBelow st p) := by
 refine ⟨fun s hs => ?_, ?_, ?_⟩
 ·unfold fromL at hs
  obtain ⟨h1, h2⟩ := List.mem_filter.1 hs
  obtain ⟨i, hi, rfl⟩ := List.mem_map.1 h1
  rw [Bool.and_eq_true] at h2
  exact ⟨h2.1, H.hash i (List.mem_range.1 hi) h2.1⟩
 ·rw [from_below]; exact ixBelow_nodup H.nde
 ·rw [from_below]; exact ixBelow_perm H.perm
theorem below_all {st : IxSt} {p : Int} (h : ∀ x ∈ st, p ≤ x.2) : ixBelow st p = st := by
 unfold ixBelow
 rw [List.filter_eq_self]
 intro x hx
 exact decide_eq_true (h x hx)
theorem tab_nil {T : Tab} {p : Int} : fromL T p 0 = [] := rfl
theorem fit_any (w : World) (q : Nat) (A : Option Addr) (n c : Nat) (T : Tab) (st : IxSt) (hI : IxS w q A n c T) (hT : 0 < n → TabOk hashN T n st) (hz : n = 0 → st = []) (hc : c = st.length) (hi : ∀ x ∈ st, i64 x.2) (hn : n ≤ 1099511627776) (hcn : c ≤ 68719476736) :
  Calls Tryz.prog 139 #[.pointer (some ⟨q, 0, none⟩)] w fun e w' => e = .returned (.tuple #[]) ∧ ∃ (g n' : Nat) (T' : Tab), IxAt w' q g n' c T' ∧ TabOk hashN T' n' st ∧ c + 1 < n' ∧ n' ≤ 8 * (c + 1) ∧ (A = some ⟨g, 0, none⟩ ∨ w.heap.size ≤ g) ∧ Keeps (fun b => b ≠ q) w w' := by
 have HI := Hd hI
 have c0 := hI.blk.c0
 have c1 := hI.blk.c1
 obtain ⟨a, ha⟩ : ∃ a, n / 4 = a := ⟨_, rfl⟩
 obtain ⟨b, hb⟩ : ∃ b, n / 8 = b := ⟨_, rfl⟩
 have qa : (n : Int) / 4 = (a : Int) := by omega
 have qb : (n : Int) / 8 = (b : Int) := by omega
 have qa' : (n : Int).tdiv 4 = (a : Int) := by rw [Int.tdiv_eq_ediv_of_nonneg (by omega)]; exact qa
 have qb' : (n : Int).tdiv 8 = (b : Int) := by rw [Int.tdiv_eq_ediv_of_nonneg (by omega)]; exact qb
 have HLAY := Hd (show ∀ (w1 : World) (B : Option Addr) (k : Nat), Kp w w1 → w1.ownsRow w.heap.size 126 4 (.slice B (fromL T (-9223372036854775808) n).length k) (fromL T (-9223372036854775808) n).length (slC (fromL T (-9223372036854775808) n)) →
   Calls Tryz.prog 109 #[.pointer (some ⟨q, 0, none⟩), .slice B (fromL T (-9223372036854775808) n).length k] w1 fun e w' => e = .returned (.tuple #[]) ∧ ∃ (g n' : Nat) (T' : Tab), IxAt w' q g n' c T' ∧ TabOk hashN T' n' st ∧ c + 1 < n' ∧ n' ≤ 8 * (c + 1) ∧ (A = some ⟨g, 0, none⟩ ∨ w.heap.size ≤ g) ∧ Keeps (fun b => b ≠ q) w w' from fun w1 B k hk ho => by
  have hlen := fromL_len T (-9223372036854775808) n
  have hq := hI.blk.lt
  have hall : (∀ s ∈ fromL T (-9223372036854775808) n, s.full = true ∧ s.hash = (hashN s.key : Int)) ∧ (((fromL T (-9223372036854775808) n).map kv).map (·.1)).Nodup ∧ ((fromL T (-9223372036854775808) n).map kv).Perm st := by
   rcases Nat.eq_zero_or_pos n with h0 | h0
   ·subst h0
    rw [tab_nil, hz rfl]
    exact ⟨fun s hs => absurd hs (List.not_mem_nil), List.nodup_nil, List.Perm.refl _⟩
   ·have h := from_ok (hT h0) (-9223372036854775808)
    rwa [below_all fun x hx => (hi x hx).1] at h
  have hl : (fromL T (-9223372036854775808) n).length = c := by
   have := hall.2.2.length_eq
   rw [List.length_map] at this
   omega
  refine (lay_any w1 q _ c (hI.blk.keep hk trivial) B k _ ((SlsAt.of_own ho rfl).mono fun b _ hb => ?_) (by omega) hall.1 hall.2.1).mono ?_
  ·have := hb.1; omega
  ·rintro e w' ⟨rfl, g, n', T', h1, h2, h3, h4, h5, h6⟩
   rw [hl] at h1 h3 h4
   exact ⟨rfl, g, n', T', h1, h2.of_perm hall.2.2, by omega, by omega, .inr (Nat.le_trans hk.size h5), (hk.mono fun _ _ _ => trivial).trans h6⟩)
 have HFROM := Hd (from_any w q A n c T hI hn (-9223372036854775808))
 have HOLD := Hd (show ¬ a * 3 ≤ c → ¬ (8 < n ∧ c < b) → ∃ (g n' : Nat) (T' : Tab), IxAt w q g n' c T' ∧ TabOk hashN T' n' st ∧ c + 1 < n' ∧ n' ≤ 8 * (c + 1) ∧ (A = some ⟨g, 0, none⟩ ∨ w.heap.size ≤ g) ∧ Keeps (fun b => b ≠ q) w w from fun h1 h2 => by
  have h0 : 0 < n := by omega
  obtain ⟨g, e, htab, hne⟩ := hI.tab h0
  have hb := hI.blk
  rw [e] at hb
  exact ⟨g, n, T, ⟨hb, htab, hne⟩, hT h0, by omega, by omega, .inl e, Keeps.refl _ _⟩)
 clear hI hT hz hi hc
 have hcs : (decide ((a : Int) * 3 ≤ (c : Int)) = true) ∨ (decide ((a : Int) * 3 ≤ (c : Int)) = false ∧ decide ((8 : Int) < (n : Int)) = false) ∨ (decide ((a : Int) * 3 ≤ (c : Int)) = false ∧ decide ((8 : Int) < (n : Int)) = true ∧ decide ((c : Int) < (b : Int)) = false) ∨ (decide ((a : Int) * 3 ≤ (c : Int)) = false ∧ decide ((8 : Int) < (n : Int)) = true ∧ decide ((c : Int) < (b : Int)) = true) := by
  cases decide ((a : Int) * 3 ≤ (c : Int)) <;> cases decide ((8 : Int) < (n : Int)) <;> cases decide ((c : Int) < (b : Int)) <;> simp
 go_enter Tryz.func139, Tryz.ntmps139
 rcases hcs with e1 | ⟨e1, e2⟩ | ⟨e1, e2, e3⟩ | ⟨e1, e2, e3⟩
 ·go_wp2_with fail
  refine (show Calls _ _ _ _ _ from HFROM.out).mono ?_
  rintro e w1 ⟨B, k, rfl, ho, hk⟩
  have HL := Hd (HLAY.out w1 B k hk ho)
  clear ho hk
  go_wp2_with fail
  refine (show Calls _ _ _ _ _ from HL.out).mono ?_
  rintro e w2 ⟨rfl, hfin⟩
  go_wp2_with fail
  go_end0
  exact ⟨rfl, hfin⟩
 ·have HO := Hd (HOLD.out (by have := of_decide_eq_false e1; omega) (by have := of_decide_eq_false e2; omega))
  go_wp2_with fail
  go_end0
  exact ⟨rfl, HO.out⟩
 ·have HO := Hd (HOLD.out (by have := of_decide_eq_false e1; omega) (by have := of_decide_eq_false e3; omega))
  have f3 : decide (c < b) = false := by rw [decide_eq_false_iff_not]; have := of_decide_eq_false e3; omega
  go_wp2_with fail
  go_end0
  exact ⟨rfl, HO.out⟩
 ·have f3 : decide (c < b) = true := by rw [decide_eq_true_eq]; have := of_decide_eq_true e3; omega
  go_wp2_with fail
  refine (show Calls _ _ _ _ _ from HFROM.out).mono ?_
  rintro e w1 ⟨B, k, rfl, ho, hk⟩
  have HL := Hd (HLAY.out w1 B k hk ho)
  clear ho hk
  go_wp2_with fail
  refine (show Calls _ _ _ _ _ from HL.out).mono ?_
  rintro e w2 ⟨rfl, hfin⟩
  go_wp2_with fail
  go_end0
  exact ⟨rfl, hfin⟩
end Go.Proofs.YticophaepapjoaaGreatDoor
