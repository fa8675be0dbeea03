/-
  ItemMade, JnAddAll, JnNo, TabLaid: texts of mine, joined.
-/
import Derived.Test.YticophaepapjoaaGreatDoorAllA29
import Derived.Test.YticophaepapjoaaGreatDoorAllA19
import Derived.Test.YticophaepapjoaaGreatDoorAllA15
import Derived.Test.YticophaepapjoaaGreatDoorAllA33
import Derived.Test.YticophaepapjoaaGreatDoorAllA03
import Derived.Test.YticophaepapjoaaGreatDoorRows
import Derived.Test.YticophaepapjoaaGreatDoorTie
namespace Go.Proofs.YticophaepapjoaaGreatDoor
open Go Go.RowKit Go.Joins
theorem bytes_ahead {l m : List It} {r : List UInt8} (hl : l.all It.may = true) (hm : m.all It.may = true) (h : bytesOf m = bytesOf l ++ r) : ∃ n, m = l ++ n ∧ r = bytesOf n ∧ n.all It.may = true := by
 induction l generalizing m with
 | nil => exact ⟨m, rfl, by simpa [bytesOf] using h.symm, hm⟩
 | cons x l ih =>
  cases m with
  | nil =>
   have := x.bytes_pos
   rw [bytesOf_cons] at h
   have h2 := congrArg List.length h
   simp only [List.length_append, bytesOf, List.flatMap_nil, List.length_nil] at h2
   omega
  | cons y m =>
   rw [List.all_cons, Bool.and_eq_true] at hl hm
   rw [bytesOf_cons, bytesOf_cons, List.append_assoc] at h
   obtain ⟨rfl, e⟩ := It.bytes_inj hm.1 hl.1 h
   obtain ⟨n, rfl, e2, e3⟩ := ih hl.2 hm.2 e
   exact ⟨n, rfl, e2, e3⟩
theorem own_form4 {w : World} {base n size : Nat} {e : TypeId} {v : Value} {xs : List Value} (h : w.ownsRow base e size v n xs) : ∃ A c, v = .slice A n c := by
 rcases h.2 with ⟨rfl, h0⟩ | ⟨g, cap, cur, rfl, r⟩
 ·exact ⟨none, 0, by rw [h0]⟩
 ·exact ⟨_, _, rfl⟩
set_option maxRecDepth 100000 in
set_option maxHeartbeats 1600000 in
theorem idecode (w : World) (A : Option Addr) (c : Nat) (b : List UInt8) (h : Row w A (fun _ => True) (bcells b)) (hlc : b.length ≤ c) (hcm : c ≤ maxLen) (hl : b.length ≤ 1000000) :
  Calls Tryz.prog 120 #[.slice A b.length c] w fun e w' => Keeps (fun _ => True) w w' ∧
   ((∃ B k l, e = .returned (.tuple #[.slice B l.length k, .int .i64 0]) ∧ l ≠ [] ∧ l.all It.may = true ∧ bytesOf l = b ∧ l.length ≤ k ∧ k ≤ maxLen ∧ ItsAt w' B (fun b => w.heap.size ≤ b ∧ b < w'.heap.size) l ∧ Unfr w' B l.length) ∨
    ((∀ l : List It, l ≠ [] → l.all It.may = true → bytesOf l ≠ b) ∧ ∃ B k, e = .returned (.tuple #[.slice B 0 k, .int .i64 1]))) := by
 unfold maxLen at hcm
 have HH := Lib.hid h
 obtain ⟨n, hn⟩ : ∃ n, b.length = n := ⟨_, rfl⟩
 have HN := Lib.hid hn
 rw [hn] at hlc hl ⊢
 clear hn h
 go_enter Tryz.func120, Tryz.ntmps120
 go_wp2_with fail
 go_loopw [0, 4] (fun s v wr => ∃ (A1 : Option Addr) (m c1 : Nat) (l : List It) (r : List UInt8), s = .slice A1 m c1 ∧ RowKit.Hid (r.length = m) ∧ m ≤ c1 ∧ c1 ≤ c ∧ m ≤ n ∧ RowKit.Hid (b = bytesOf l ++ r) ∧ RowKit.Hid (l.all It.may = true) ∧ RowKit.Hid (Row w A1 (fun _ => True) (bcells r)) ∧
   RowKit.Hid (wr.ownsRow w.heap.size 40 4 v l.length (itCells l)) ∧ RowKit.Hid (Kp w wr)) (fun s _ _ => match s with | .slice _ m _ => m | _ => 0)
 case atStart => exact ⟨A, n, c, [], b, rfl, HN, hlc, Nat.le_refl _, Nat.le_refl _, Lib.hid rfl, Lib.hid rfl, HH, Lib.hid (World.ownsRow_nil _ _ _ _), Lib.hid (Keeps.refl _ _)⟩
 case round =>
  obtain ⟨A1, m, c1, l, r, rfl, hm, hmc, hcc, hmn, hbr, hall, hrow, hown, hkp⟩ := hrel
  have hll : l.length ≤ 1000000 := by
   have h1 := bytesOf_four l
   have h2 := congrArg List.length hbr.out
   rw [List.length_append, HN.out] at h2
   omega
  by_cases hpos : 0 < m
  ·have HD := Lib.hid (show Calls Tryz.prog 152 #[.slice A1 m c1] wr fun e w' => Kp wr w' ∧ DecPost r e from by
    have := idecode1 wr A1 c1 r (hrow.out.keep hkp.out) (by rw [hm.out]; exact hmc) (by unfold maxLen; omega) (by rw [hm.out]; omega)
    rw [hm.out] at this
    exact this)
   have t1 : decide ((0 : Int) < (m : Int)) = true := by simp; omega
   go_wp2_with fail
   refine HD.out.mono ?_
   rintro e w1 ⟨hk1, (⟨x, r2, rfl, hx, hr2⟩ | ⟨er, he0, her, rfl, hno⟩)⟩
   ·have HX := Lib.hid hx
    have HR2 := Lib.hid hr2
    have hbl := It.bytes_len hx
    have hbp := x.bytes_pos
    have hxm := hm.out
    rw [hr2, List.length_append] at hxm
    obtain ⟨z, hz⟩ : ∃ z, x.bytes.length = z := ⟨_, rfl⟩
    have HZ := Lib.hid hz
    rw [hz] at hbl hbp hxm
    obtain ⟨z2, hz2⟩ : ∃ z2, r2.length = z2 := ⟨_, rfl⟩
    have HZ2 := Lib.hid hz2
    rw [hz2] at hxm
    rw [hz]
    have hzm : z ≤ m := by omega
    have hz2m : m - z = z2 := by omega
    have HK1 := Lib.hid (hkp.out.trans hk1)
    have HOWN := Lib.hid (hk1.own hown.out fun _ _ => trivial)
    have hsrc := src_item (w1.alloc (.cells #[.string x.key, .string x.val, .int .i64 x.till, .bool x.gone] 40)) x
    rw [show (w1.alloc (.cells #[.string x.key, .string x.val, .int .i64 x.till, .bool x.gone] 40)).heap.size = w1.heap.size + 1 by simp] at hsrc
    have HSRC := Lib.hid hsrc
    clear hsrc
    obtain ⟨g, o, rfl, -, -⟩ := hrow.out.at_ (k := 0) (by rw [bcells_len, hm.out]; omega)
    have hsz := HK1.out.size
    have hl1 : l.length + 1 ≤ 1000001 := by omega
    obtain ⟨q, hq⟩ : ∃ q, l.length = q := ⟨_, rfl⟩
    have HQ := Lib.hid hq
    rw [hq] at hl1 HOWN
    clear hz hz2 hx hr2 hk1 HD hq hll hown hkp
    go_wp2_with (at_builtin; refine item_elem.list_append rfl (.tmp 19) (.tmp 21) _ rfl rfl ((HOWN.out.alloc _).alloc _) rfl HSRC.out ?c3 ?c4 ?c5 ?_)
    case c3 => unfold maxLen; omega
    case c4 => omega
    case c5 => simp; omega
    intro v3 w3 ho3 hg3 hb3
    have hk3 : Kp w w3 := ((HK1.out.alloc _).alloc _).grown hg3 fun j hj => (HOWN.out.lt j hj).1
    have HK3 := Lib.hid hk3
    have HO3 := Lib.hid (show w3.ownsRow w.heap.size 40 4 v3 (l ++ [x]).length (itCells (l ++ [x])) from by
     rw [itCells_snoc, List.length_append, HQ.out]
     exact ho3)
    have HA3 := Lib.hid (show (l ++ [x]).all It.may = true from by simp [hall.out, HX.out])
    have HB3 := Lib.hid (show b = bytesOf (l ++ [x]) ++ r2 from by rw [bytesOf_snoc, List.append_assoc, ← HR2.out]; exact hbr.out)
    have HD2 := Lib.hid (show r.drop z = r2 from by rw [HR2.out, ← HZ.out]; exact List.drop_left)
    clear hk3 ho3 hg3 hb3 HSRC HOWN HK1
    by_cases hcz : c1 = z
    ·have hmz : m = z := by omega
     subst hcz
     have HMZ := Lib.hid hmz
     clear hmz
     go_wp2_with fail
     go_roundw
     case rel => exact ⟨_, _, _, l ++ [x], r2, rfl, Lib.hid (by have := HZ2.out; have := HMZ.out; omega), by omega, by omega, by omega, HB3, HA3, Lib.hid (by rw [List.eq_nil_of_length_eq_zero (show r2.length = 0 by have := HZ2.out; have := HMZ.out; omega)]; exact Row.nil _ _ _), HO3, HK3⟩
     case measure => have := HMZ.out; simp; omega
    ·have HROW := Lib.hid (cut_row hrow.out hm.out hzm hmc hcz)
     rw [HD2.out] at HROW
     have hnz : ¬ c1 = z := hcz
     have hzc : z ≤ c1 := by omega
     go_wp2_with fail
     go_roundw
     case rel => exact ⟨_, _, _, l ++ [x], r2, rfl, Lib.hid (by have := HZ2.out; omega), by omega, by omega, by omega, HB3, HA3, HROW, HO3, HK3⟩
     case measure => simp; omega
   ·have HNO := Lib.hid hno
    have t2 : ((er : Int) != 0) = true := by simp; omega
    have HK1 := Lib.hid (hkp.out.trans hk1)
    clear hno hk1 HD
    go_wp2_with fail
    go_ret2
    refine ⟨HK1.out.alloc _, .inr ⟨fun l' hne hall' hb' => ?_, none, 0, rfl⟩⟩
    obtain ⟨n', rfl, hr', hn'⟩ := bytes_ahead hall.out hall' (hb'.trans hbr.out)
    cases n' with
    | nil =>
     have := hm.out
     rw [hr'] at this
     simp [bytesOf] at this
     omega
    | cons y n' =>
     rw [List.all_cons, Bool.and_eq_true] at hn'
     exact HNO.out y _ hn'.1 (hr'.trans (bytesOf_cons _ _))
  ·obtain rfl : m = 0 := by omega
   have hr0 : r = [] := List.eq_nil_of_length_eq_zero hm.out
   by_cases hl0 : l = []
   ·have HL0 := Lib.hid hl0
    subst hl0
    obtain ⟨A2, c2, rfl⟩ := own_form4 hown.out
    go_wp2_with fail
    go_ret2
    refine ⟨hkp.out, .inr ⟨fun l' hne hall' hb' => ?_, none, 0, rfl⟩⟩
    have := bytesOf_pos hne
    rw [hb', hbr.out, hr0] at this
    simp [bytesOf] at this
   ·have hlp := List.length_pos_iff.2 hl0
    obtain ⟨g2, c2, rfl, -, -⟩ := hown.out.form hlp
    have HOWN := hown.out
    have t2 : ((l.length : Int) == 0) = false := by simp; omega
    have HL := Lib.hid (own_room HOWN)
    have HI := Lib.hid (ItsAt.of_own HOWN rfl)
    have HU := Lib.hid (Unfr.own HOWN)
    have HL0 := Lib.hid hl0
    have HR0 := Lib.hid hr0
    clear hl0 HOWN hr0
    go_wp2_with fail
    go_ret2
    exact ⟨hkp.out, .inl ⟨_, c2, l, rfl, HL0.out, hall.out, by rw [hbr.out, HR0.out, List.append_nil], HL.out.1, HL.out.2, HI.out, HU.out⟩⟩
def theItems : ItemOK where
 T := fun _ => True
 tk := fun _ _ => trivial
 may := fun w x _ hx => imay w x hx
 live := fun w x now _ hx h1 h2 => ilive w x hx now h1 h2
 encode := fun w A c l _ hA hl hc hn hf => iencode w A c l hA hl hc hn hf
 decode := fun w A c b _ h h1 h2 h3 => (idecode w A c b h h1 h2 h3).mono fun _e _w' hh => ⟨hh.1, hh.2.imp (fun ⟨B, k, l, e1, e2, e3, e4, e5, e6, e7, _⟩ => ⟨B, k, l, e1, e2, e3, e4, e5, e6, e7⟩) id⟩
theorem JGo.kp {w w1 w2 : World} {F F' Fs Fs' : Foot} {s s' : SDev} {st : JSt} {n : Nat} (h : JGo w w1 F F' Fs Fs' s s' st n) (hk : Kp w1 w2) : JGo w w2 F F' Fs Fs' s s' st n :=
 { h with k := h.k.trans (hk.mono fun _ _ _ => trivial) }
theorem jseq_is (S : Slog2) (w : World) (p q : Nat) (Fs : Foot) (s : SDev) (st : JSt) (h : jrep S w p q Fs st s) :
  Calls Tryz.prog 24 #[.pointer (some ⟨q, 0, none⟩)] w fun e w' => e = .returned (.int .i64 (st.keys.length : Int)) ∧ Kp w w' := by
 obtain ⟨lq, Fl, v, lst, rfl, hc, hm⟩ := h
 obtain ⟨A, c, rfl, -, -⟩ := hc.form
 have h1 := jkept_len lst
 have h2 := (S.wf hc.l).gone
 have h3 := hm.len
 have h4 := hm.age
 have h5 := hm.old
 refine (jseq w q lq lst.gone (jkept lst).length A c hc.blk (by omega) (st.keys.length : Int) (by omega)).mono ?_
 rintro e w' ⟨rfl, z, rfl⟩
 exact ⟨rfl, (Keeps.refl _ _).drewN z⟩
theorem jflushed (S : Slog2) (W w : World) (hT : S.T W) (p q lq : Nat) (F Fl : Foot) (v : Value) (s : SDev) (st : JSt) (lst : LSt) (hd : DAt w p F s) (hc : JAt S w p q lq Fl (lst.gone : Int) v (jkept lst) lst s) (hm : JM st lst) (hap : Apart F (jfoot q Fl v))
  (hkp : Kp W w) (gf : ∀ b, F.all b → W.heap.size ≤ b) (gs : ∀ b, (jfoot q Fl v).all b → W.heap.size ≤ b) (room : st.place + 8 * st.segs ≤ s.now.length) (hcl : s.calls ≤ 549755813888) (hage : st.age + 1 ≤ 30000) :
  Calls Tryz.prog 46 #[.pointer (some ⟨lq, 0, none⟩)] w fun e w' => e = .returned (.int .i64 0) ∧ ∃ (F' Fs' : Foot) (rows : List (List UInt8)) (k : Nat), DAt w' p F' (SDev.still rows k) ∧
   jrep S w' p q Fs' ⟨st.place, st.segs, st.keys, st.base, st.kept, st.age + 1⟩ (SDev.still rows k) ∧ jdisk S ⟨st.place, st.segs, st.keys, st.base, st.kept, st.age + 1⟩ rows ∧ JGo w w' F F' (jfoot q Fl v) Fs' s (SDev.still rows k) st 1 := by
 have haw : Apart F Fl := ⟨fun b hb hf => hap.l b hb (jfoot_all.2 (.inr (.inl hf))), fun b hb hf => hap.r b (.inr (.inl hb)) hf⟩
 refine (S.flush W w p lq F Fl s lst hd hc.l hc.on haw hT hkp gf (fun b hb => gs b (jfoot_all.2 (.inr (.inl hb)))) (by rw [hm.place, hm.segs]; exact room) hcl).mono ?_
 rintro e w' ⟨rfl, F', Fl', rows, k, hd', hrep', hdk, hlen, hout, hcalls, hap', hk', f1, f2, f3, f4⟩
 have hmid := JMid.of hc hap hd' hrep' hc.on hap' hk' f1 f2 f3 f4
 have hm' := hm.older (n := st.age + 1) (Nat.le_succ _) hage
 exact ⟨rfl, F', jfoot q Fl' v, rows, k, hd', ⟨lq, Fl', v, lst, rfl, hmid.c, hm'⟩, ⟨lst, hdk, hm'⟩, hmid.go hlen (fun i hi => hout i fun hh => hi ((hm.has i).1 hh)) (by show k ≤ s.calls + 1000 * 1; omega)⟩
def jpart (st : JSt) (ks : List ByteArray) (j b : Nat) : JSt := ⟨st.place, st.segs, st.keys ++ ks.take j, b, st.kept, st.age + j⟩
def JAddsPost (S : Slog2) (w : World) (p q : Nat) (F Fs : Foot) (s : SDev) (st : JSt) (ks : List ByteArray) (e : Ending) (w' : World) : Prop :=
 e = .returned (.tuple #[.int .i64 ((st.keys.length + ks.length : Nat) : Int), .int .i64 0]) ∧ ∃ (F' Fs' : Foot) (rows : List (List UInt8)) (k b : Nat), DAt w' p F' (SDev.still rows k) ∧ jrep S w' p q Fs' (jadd st ks b) (SDev.still rows k) ∧ jdisk S (jadd st ks b) rows ∧ st.base ≤ b ∧ JGo w w' F F' Fs Fs' s (SDev.still rows k) st (ks.length + 1)
structure JStep (S : Slog2) (W w wr : World) (p q : Nat) (F Fs : Foot) (s : SDev) (st : JSt) (ks : List ByteArray) (j : Nat) (F' Fs' : Foot) (s' : SDev) (b : Nat) : Prop where
 jb : Jb S W wr p q F' Fs' s' (jpart st ks j b)
 go : JGo w wr F F' Fs Fs' s s' st j
 le : st.base ≤ b
section
variable {S : Slog2} {W w wr w2 : World} {p q : Nat} {F Fs F' Fs' : Foot} {s s' : SDev} {st : JSt} {ks : List ByteArray} {j b : Nat}
theorem JStep.start (h : Jb S W w p q F Fs s st) (hk : Kp w wr) : JStep S W w wr p q F Fs s st ks 0 F Fs s st.base := by
 refine ⟨?_, JGo.still h hk, Nat.le_refl _⟩
 have := h.keep hk
 unfold jpart
 simpa using this
theorem JStep.row (h : JStep S W w wr p q F Fs s st ks j F' Fs' s' b) {A : Option Addr} {xs : List Value} (hr : Row w A (fun b => ¬ F.all b ∧ ¬ Fs.all b) xs) : Row wr A (fun _ => True) xs :=
 ((hr.mono fun b _ hb => (⟨fun hm => hb.1 (.inl hm), fun hm => hb.2 (.inl hm)⟩ : ¬ F.M b ∧ ¬ Fs.M b)).keep h.go.k).mono fun _ _ _ => trivial
theorem JStep.one (hT : S.T W) (h : JStep S W w wr p q F Fs s st ks j F' Fs' s' b) (hj : j < ks.length) (hks : ks.length ≤ 1000) (hage : st.age ≤ 20000) (hcl : s.calls ≤ 500000000000) (hok : ∀ k ∈ ks, keyOk k) :
  Calls Tryz.prog 60 #[.pointer (some ⟨q, 0, none⟩), .string ks[j]] wr fun e w' => e = .returned (.int .i64 0) ∧ ∃ (F2 Fs2 : Foot) (s2 : SDev) (b2 : Nat), JStep S W w w' p q F Fs s st ks (j + 1) F2 Fs2 s2 b2 := by
 have hc := h.go.calls
 refine (jadd1 S W wr hT p q F' Fs' s' (jpart st ks j b) h.jb (by show st.age + j + 1 ≤ 30000; omega) (by omega) ks[j] (hok _ (List.getElem_mem hj))).mono ?_
 rintro e w' ⟨rfl, F2, Fs2, s2, b2, hd2, hr2, hb2, hg2⟩
 have e1 : jnext (jpart st ks j b) ks[j] b2 = jpart st ks (j + 1) b2 := by
  unfold jnext jpart
  rw [List.take_succ_eq_append_getElem hj, ← List.append_assoc]
  rfl
 rw [e1] at hr2
 refine ⟨rfl, F2, Fs2, s2, b2, h.jb.moved hd2 hr2 rfl rfl hg2, h.go.trans hg2 fun _ => Iff.rfl, Nat.le_trans h.le hb2⟩
end
theorem jkey_at {w : World} {A : Option Addr} {ks : List ByteArray} {G : Nat → Prop} (h : Row w A G (ks.map Value.string)) {j : Nat} (hj : j < ks.length) : ∃ b o, A = some ⟨b, o, none⟩ ∧ w.cell? ⟨b, o + j, none⟩ = some (.string ks[j]) := by
 obtain ⟨b, o, e, -, hc⟩ := h.at_ (k := j) (by simpa using hj)
 exact ⟨b, o, e, by simpa using hc⟩
set_option maxRecDepth 100000 in
set_option maxHeartbeats 2000000 in
theorem jadds (S : Slog2) (W w : World) (hT : S.T W) (p q : Nat) (F Fs : Foot) (s : SDev) (st : JSt) (h : Jb S W w p q F Fs s st) (hage : st.age ≤ 20000) (hcl : s.calls ≤ 500000000000) (A : Option Addr) (c n : Nat) (ks : List ByteArray) (hn : n = ks.length)
  (hrow : Row w A (fun b => ¬ F.all b ∧ ¬ Fs.all b) (ks.map Value.string)) (hnc : n ≤ c) (_hcm : c ≤ maxLen) (hks : ks.length ≤ 1000) (hok : ∀ k ∈ ks, keyOk k) :
  Calls Tryz.prog 26 #[.pointer (some ⟨q, 0, none⟩), .slice A n c] w (JAddsPost S w p q F Fs s st ks) := by
 have c0 : ∃ lq, w.cell? ⟨q, 0, none⟩ = some (.pointer (some ⟨lq, 0, none⟩)) := by
  obtain ⟨lq, Fl, v, lst, rfl, hc, -⟩ := h.r
  exact ⟨lq, hc.blk.c0⟩
 obtain ⟨lq0, c0⟩ := c0
 have HDN := Lib.hid (jdown w q lq0 c0)
 have hn1 : n ≤ 1000 := by omega
 have HMAY := Lib.hid (show ∀ (wr : World) (j : Nat) (hj : j < ks.length), Calls Tryz.prog 59 #[.string ks[j]] wr fun e w' => e = .returned (.bool true) ∧ wr = w' from fun wr j hj =>
  jmay_any wr ks[j] true ⟨fun _ => hok _ (List.getElem_mem hj), fun _ => rfl⟩ (by have := (hok _ (List.getElem_mem hj)).2; omega))
 have HROW := Lib.hid hrow
 have HN := Lib.hid hn
 have HST := Lib.hid (show ∀ wr, Kp w wr → JStep S W w wr p q F Fs s st ks 0 F Fs s st.base from fun wr hk => JStep.start h hk)
 have HONE := Lib.hid (show ∀ (wr : World) (j : Nat) (F' Fs' : Foot) (s' : SDev) (b : Nat), JStep S W w wr p q F Fs s st ks j F' Fs' s' b → ∀ hj : j < ks.length, Calls Tryz.prog 60 #[.pointer (some ⟨q, 0, none⟩), .string ks[j]] wr fun e w' => e = .returned (.int .i64 0) ∧ ∃ (F2 Fs2 : Foot) (s2 : SDev) (b2 : Nat), JStep S W w w' p q F Fs s st ks (j + 1) F2 Fs2 s2 b2 from
  fun wr j F' Fs' s' b h1 hj => h1.one hT hj hks hage hcl hok)
 have HEND := Lib.hid (show ∀ (wr : World) (F' Fs' : Foot) (s' : SDev) (b : Nat), JStep S W w wr p q F Fs s st ks n F' Fs' s' b → ∃ lq, wr.cell? ⟨q, 0, none⟩ = some (.pointer (some ⟨lq, 0, none⟩)) ∧
   Calls Tryz.prog 46 #[.pointer (some ⟨lq, 0, none⟩)] wr fun e w1 => e = .returned (.int .i64 0) ∧ Calls Tryz.prog 24 #[.pointer (some ⟨q, 0, none⟩)] w1 fun e w2 => ∃ t, e = .returned (.int .i64 t) ∧ JAddsPost S w p q F Fs s st ks (.returned (.tuple #[.int .i64 t, .int .i64 0])) w2 from by
  intro wr F' Fs' s' b h1
  subst hn
  obtain ⟨d, r, ap, kp, gf, gs, room⟩ := h1.jb
  obtain ⟨lq, Fl, v, lst, rfl, hc, hm⟩ := r
  have hgc := h1.go.calls
  refine ⟨lq, hc.blk.c0, (jflushed S W wr hT p q lq F' Fl v s' _ lst d hc hm ap kp gf gs room (by omega) (by show st.age + ks.length + 1 ≤ 30000; omega)).mono ?_⟩
  rintro e w1 ⟨rfl, F2, Fs2, rows, k, hd2, hr2, hk2, hg2⟩
  have e1 : (⟨(jpart st ks ks.length b).place, (jpart st ks ks.length b).segs, (jpart st ks ks.length b).keys, (jpart st ks ks.length b).base, (jpart st ks ks.length b).kept, (jpart st ks ks.length b).age + 1⟩ : JSt) = jadd st ks b := by
   unfold jpart jadd
   simp
  rw [e1] at hr2 hk2
  refine ⟨rfl, (jseq_is S w1 p q Fs2 _ _ hr2).mono ?_⟩
  rintro e w2 ⟨rfl, hk⟩
  refine ⟨_, rfl, ?_, F2, Fs2, rows, k, b, hd2.keep (hk.mono fun _ _ _ => trivial), jrep_keep hr2 (hk.mono fun _ _ _ => trivial), hk2, h1.le, (h1.go.trans hg2 fun _ => Iff.rfl).kp hk⟩
  unfold jadd
  rw [List.length_append])
 clear h hn hrow hks hok hage hcl hT
 unfold maxLen at _hcm
 go_enter Tryz.func26, Tryz.ntmps26
 go_wp2_with fail
 refine (show Calls _ _ _ _ _ from HDN.out).mono ?_
 rintro e w' ⟨rfl, rfl⟩
 clear HDN
 go_wp2_with fail
 go_loopw [16] (fun i wr => ∃ j, j ≤ n ∧ i = .int .i64 j ∧ RowKit.Hid (Kp w wr)) (fun i _ => n - (intOf i).toNat)
 case atStart => exact ⟨0, Nat.zero_le _, rfl, Lib.hid (Keeps.refl _ _)⟩
 case round =>
  obtain ⟨j, hj, rfl, hkr⟩ := hrel
  by_cases hjn : j < n
  ·have t1 : decide ((j : Int) < (n : Int)) = true := by simp; omega
   have hjl : j < ks.length := by rw [← HN.out]; exact hjn
   obtain ⟨b, o, rfl, hcell⟩ := jkey_at (HROW.out.keep (hkr.out.mono fun _ _ _ => trivial)) hjl
   have HM := Lib.hid (HMAY.out wr j hjl)
   generalize ks[j] = kj at hcell HM
   go_wp2_with fail
   refine (show Calls _ _ _ _ _ from HM.out).mono ?_
   rintro e w' ⟨rfl, rfl⟩
   go_wp2_with fail
   go_roundw
   case rel => exact ⟨j + 1, by omega, by go_num, hkr⟩
   case measure => simp [intOf]; omega
  ·have t1 : decide ((j : Int) < (n : Int)) = false := by simp; omega
   obtain rfl : j = n := by omega
   have HS0 := Lib.hid (HST.out wr hkr.out)
   clear hjn HMAY hkr HST
   go_wp2_with fail
   go_loopw [26] (fun i wr => ∃ (j' : Nat) (F' Fs' : Foot) (s' : SDev) (b : Nat), j' ≤ j ∧ i = .int .i64 j' ∧ RowKit.Hid (JStep S W w wr p q F Fs s st ks j' F' Fs' s' b)) (fun i _ => j - (intOf i).toNat)
   case atStart => exact ⟨0, F, Fs, s, st.base, Nat.zero_le _, rfl, HS0⟩
   case round =>
    obtain ⟨j', F', Fs', s', b, hj', rfl, hst⟩ := hrel
    by_cases hjn : j' < j
    ·have t1 : decide ((j' : Int) < (j : Int)) = true := by simp; omega
     have hjl : j' < ks.length := by rw [← HN.out]; exact hjn
     obtain ⟨b1, o1, rfl, hcell⟩ := jkey_at (hst.out.row HROW.out) hjl
     have HM := Lib.hid (HONE.out wr j' F' Fs' s' b hst.out hjl)
     generalize ks[j'] = kj at hcell HM
     go_wp2_with fail
     refine (show Calls _ _ _ _ _ from HM.out).mono ?_
     rintro e w' ⟨rfl, F2, Fs2, s2, b2, h2⟩
     have H2 := Lib.hid h2
     clear h2 HM hst hcell
     go_wp2_with fail
     go_roundw
     case rel => exact ⟨j' + 1, F2, Fs2, s2, b2, by omega, by go_num, H2⟩
     case measure => simp [intOf]; omega
    ·have t1 : decide ((j' : Int) < (j : Int)) = false := by simp; omega
     obtain rfl : j' = j := by omega
     obtain ⟨lq, d0, hfl⟩ := HEND.out wr F' Fs' s' b hst.out
     have HFL := Lib.hid hfl
     clear hjn hfl HEND hst
     go_wp2_with fail
     refine (show Calls _ _ _ _ _ from HFL.out).mono ?_
     rintro e w1 ⟨rfl, hsq⟩
     have HSQ := Lib.hid hsq
     clear hsq HFL d0
     go_wp2_with fail
     refine (show Calls _ _ _ _ _ from HSQ.out).mono ?_
     rintro e w2 ⟨t, rfl, hp⟩
     have HP := Lib.hid hp
     clear hp HSQ
     go_wp2_with fail
     go_ret2
     exact HP.out
end Go.Proofs.YticophaepapjoaaGreatDoor
namespace Go.Proofs.YticophaepapjoaaGreatDoor
open Go Go.ChangeShapes Go.WideShapes Go.ChangeAt Go.RowKit
theorem own : ownKnob Tryz.prog.godebug = none := by kernel_rfl
set_option maxRecDepth 100000 in
theorem laidOut : laidOutB Tryz.prog = true := by kernel_rfl
theorem gTaken : Tryz.prog.globalNamed "icehouse/crc.taken" = some 0 := by kernel_rfl
theorem tTaken : (Tryz.prog.globals[0]?).map (·.type) = some 266 := by kernel_rfl
abbrev listed : List (String × DataW Unit) := [("icehouse/crc.taken", Rows.laid_icehouse_crc_taken)]
set_option maxRecDepth 100000 in
theorem door_met (os : Os) (args : Array Value) : laidMetH Tryz.prog listed ((World.doorLaid Tryz.prog 400 os).forCall (fun _ _ => 0) ⟨#[], args, []⟩).memory :=
 laidMetH_of_parts3 (fuel := 8) (laidMet_of_run' 8 (by kernel_rfl) (by kernel_rfl)) (by kernel_rfl) (by kernel_rfl)
def tab : List (DataW Unit) := (List.range 16).map fun i => .lit (.int .u32 ((tbits 4 i : Nat) : Int))
theorem tab_is : (Rows.laid_icehouse_crc_taken : DataW Unit) = .agg tab := by kernel_rfl
set_option maxRecDepth 100000 in
theorem taken_of {W : World} (h : laidMetH Tryz.prog listed W) : Taken W := by
 rw [MakeChecks.laidMetH_plain _ _ _ (by kernel_rfl)] at h
 obtain ⟨ps, ⟨g0, t0, cs0, f0, p0, q0, hg0, ht0, hv0, hd0, _⟩, _⟩ := h
 obtain rfl := Option.some.inj (gTaken.symm.trans hg0)
 obtain rfl := Option.some.inj (tTaken.symm.trans ht0)
 rw [tab_is] at hd0
 obtain ⟨xs, m, rfl, hx, hlen, hn, hel⟩ := DataW.trod_array Tryz.underlying266 hd0
 have c1 : Tryz.prog.cellsOf 217 = 1 := by kernel_rfl
 simp only [Prod.mk.injEq, DataW.agg.injEq] at hx
 intro i hi
 have he := hel i hi
 rw [c1, Nat.mul_one] at he
 have hxi : i < xs.length := by omega
 rw [List.getElem?_eq_getElem hxi] at he
 obtain ⟨n, e1, e2, _⟩ := DataW.trod_int Tryz.underlying217 he
 have e3 : (xs.map (·.1))[i]? = some (.lit (.int .u32 n)) := by rw [List.getElem?_map, List.getElem?_eq_getElem hxi, e2]; rfl
 rw [← hx.1] at e3
 have e4 : tab[i]? = some (.lit (.int .u32 ((tbits 4 i : Nat) : Int))) := by unfold tab; simp [hi]
 rw [e4] at e3
 have hk : n = ((tbits 4 i : Nat) : Int) := by injection e3 with e; injection e with e; injection e with _ e; exact e.symm
 have hc := World.var?_cell hg0 hv0 i
 rw [hc]
 have e5 : cs0.toList[i]? = some (.int .u32 n) := by
  have := congrArg (·[0]?) e1
  simpa [List.getElem?_take, List.getElem?_drop] using this
 rw [← Array.getElem?_toList, e5, hk]
end Go.Proofs.YticophaepapjoaaGreatDoor
