/-
  MsgBytes (layer 19), walked.
-/
import Derived.Test.YtfhhobinpmbgmaaDoorMsLaw
import Derived.Laws.BitsAllLaws
import Derived.OwnWalk
import Derived.BigQuiet
namespace Go.Proofs.YtfhhobinpmbgmaaDoor.msgBytes
open Go Go.RowKit Go.Joins

/-- Bytes with one of them turned. -/
def turned (e : List UInt8) (m : Nat) (x : UInt8) : List UInt8 := e.set m (e.getD m 0 ^^^ x)
theorem turned_len (e : List UInt8) (m : Nat) (x : UInt8) : (turned e m x).length = e.length := by simp [turned]
theorem turned_cells (e : List UInt8) (m : Nat) (x : UInt8) (h : m < e.length) : (bcells e).set m (.int .u8 ((e[m].toNat ^^^ x.toNat : Nat) : Int)) = bcells (turned e m x) := by
  unfold bcells turned
  rw [List.map_set, show e.getD m 0 = e[m] from by simp [List.getD, h]]
  congr 1
theorem bcells_snoc (l : List UInt8) (x : UInt8) : bcells l ++ [.int .u8 (x.toNat : Int)] = bcells (l ++ [x]) := by simp [bcells, bcell]

/-- What comes of the message's bytes, at w3 and behind it. -/
structure Told (S : MsgOK) (w : World) (L : List UInt8) : Prop where
  more : ∀ b, S.dec (L ++ [b]) = none
  cut : ∀ k, k < L.length → S.dec (L.take k) = none
  turn : ∀ (i : Nat) (b : UInt8), i < L.length → b ≠ 0 → S.dec (turned L i b) = none

/-- Decode of bytes that are nobody's. -/
theorem nobody (S : MsgOK) (w : World) (hT : S.T w) (A : Option Addr) (c : Nat) (l : List UInt8) (hr : Row w A (fun _ => True) (bcells l)) (h1 : l.length ≤ c) (h2 : c ≤ maxLen) (h3 : l.length ≤ 1000000) (hn : S.dec l = none) (n : Nat) (hl : l.length = n) :
    Calls Tryd.prog 14 #[.slice A n c] w fun e w' => ∃ m a, e = .returned (.tuple #[msV m a, .int .i64 1]) ∧ m.kind = 0 ∧ Kp w w' := by
  subst hl
  refine (S.decode w A c l hT hr h1 h2 h3).mono ?_
  rintro e w' ⟨-, h, hk⟩
  obtain ⟨m, a, rfl, h4, -⟩ := h hn
  exact ⟨m, a, rfl, h4, hk⟩

set_option maxRecDepth 100000 in
set_option maxHeartbeats 4000000 in
theorem walk (S : MsgOK) (w : World) (hT : S.T w) (m : Ms) (a : MsA) (hm : MsAt w m a) (hc : m.Came) (pos cut : Int) (hp1 : -9223372036854775808 ≤ pos) (hp2 : pos < 9223372036854775808) (hq1 : -9223372036854775808 ≤ cut) (hq2 : cut < 9223372036854775808) (x : UInt8) :
    Calls Tryd.prog 4 #[msV m a, .int .i64 pos, .int .i64 cut, .int .u8 (x.toNat : Int)] w fun e w' => e = .returned (.bool true) ∧ Below w.heap.size w w' := by
  have HT := Lib.hid hT
  have HM := Lib.hid hm
  have HF := Lib.hid (cutM_fits hc)
  have HC := Lib.hid (fun w2 h => ms_cut w2 m a h hc)
  have HP := Lib.hid (And.intro hp1 hp2)
  have HQ := Lib.hid (And.intro hq1 hq2)
  obtain ⟨vM, hvM⟩ : ∃ v, msV m a = v := ⟨_, rfl⟩
  have HVM := Lib.hid hvM
  rw [hvM] at HC ⊢
  clear hT hm hc hvM hp1 hp2 hq1 hq2
  go_enter Tryd.func4, Tryd.ntmps4
  go_upto_region 1 with (refine list_boxM rfl (.tmp 0) rfl m a HVM.out.symm ?_; intro w1 hb1 hk1 hs1)
  obtain ⟨g, hg⟩ : ∃ g, w.heap.size = g := ⟨_, rfl⟩
  have HG := Lib.hid hg
  have HB1 := Lib.hid hb1
  have HK := Lib.hid hk1
  have HFIN := Lib.hid (show ∀ w', Kp w w' → Below w.heap.size w w' from fun w' h => h.below)
  rw [hg] at HB1 ⊢
  clear hb1 hk1 hs1 hg
  go_wp2_with fail
  refine (show Calls _ _ _ _ _ from begun19 S _ (S.tk HT.out HK.out)).mono ?_
  rintro e w2 ⟨rfl, hk2⟩
  replace HB1 := Lib.hid (HB1.out.kp hk2)
  replace HK := Lib.hid (HK.out.trans hk2)
  clear hk2
  go_upto_region 4 with fail
  go_upto_region 5 with (first
    | (refine list_loadM rfl (.tmp 4) rfl g m a HB1.out rfl vM HVM.out ?_)
    | (go_at_call 10; ((with_reducible refine (HC.out _ (HM.out.keep HK.out)).mono ?_); rintro e w3 ⟨a2, rfl, hat, eba, eoa, hit, hmk, hk3⟩))
    | (refine list_storeM rfl (.tmp 4) (.tmp 18) rfl g m (cutM m) a a2 (HB1.out.kp hk3) rfl rfl ?_; intro w4 hb4 hk4 hs4))
  have HK4 := Lib.hid (kp_behind (HK.out.trans hk3) hk4 (Nat.le_of_eq HG.out))
  have HB4 := Lib.hid hb4
  have HAT := Lib.hid ((HM.out.keep HK4.out).over hat eba eoa hit hmk hk4 HB1.out.lt)
  clear hb4 hk4 hs4 hat eba eoa hit hmk hk3 HC HB1 HK HM
  generalize cutM m = p at HAT HB4 HF
  obtain ⟨vC, hvC⟩ : ∃ v, msV p a2 = v := ⟨_, rfl⟩
  have HVC := Lib.hid hvC
  rw [hvC]
  have HEN := Lib.hid (S.encode w4 p a2 (S.tk HT.out HK4.out) HAT.out HF.out)
  have HMS := Lib.hid (fun w5 (h : Kp w4 w5) => rmsg w5 p a2 (HAT.out.keep h) HF.out)
  have HRE := Lib.hid (fun w5 (h : Kp w4 w5) (b2 : MsA) (hb : MsAt w5 p b2) => reqMsg w5 p p a2 b2 (HAT.out.keep h) hb HF.out HF.out true (decide_eq_true rfl))
  rw [hvC] at HEN HMS HRE
  clear hvC
  go_wp2_with (refine list_loadM rfl (.tmp 4) rfl g p a2 HB4.out rfl vC HVC.out ?_)
  refine (show Calls _ _ _ _ _ from HEN.out).mono ?_
  rintro e w5 ⟨h1, h0, hk⟩
  have HK5 := Lib.hid hk
  have HB5 := Lib.hid (HB4.out.kp hk)
  clear hk HEN HB4
  cases hmay : mayM p with
  | false =>
    obtain ⟨B, cb, rfl⟩ := h0 hmay
    rw [hmay] at HMS
    clear h0 h1 hmay
    go_wp2_with (refine list_loadM rfl (.tmp 4) rfl g p a2 HB5.out rfl vC HVC.out ?_)
    refine (show Calls _ _ _ _ _ from HMS.out _ HK5.out).mono ?_
    rintro e w6 ⟨rfl, hk⟩
    have HK6 := Lib.hid (HK4.out.trans (HK5.out.trans hk))
    clear hk
    go_wp2_with fail
    go_ret
    exact ⟨rfl, HFIN.out _ HK6.out⟩
  | true =>
    obtain ⟨B, cb, rfl, e2, e3, e4⟩ := h1 hmay
    rw [hmay] at HMS
    have HLN := Lib.hid (S.encLen _ hmay)
    have HDC := Lib.hid (S.decEnc _ hmay)
    have HTD := Lib.hid (Told.mk (S := S) (w := w) (fun b => S.decMore p b hmay) (fun k hk => S.decCut p k hmay hk) (fun i b hi hb => S.decTurn p i b hmay hi hb))
    have HR5 := Lib.hid (e4.mono (G := fun _ => True) fun _ _ _ => trivial)
    generalize S.enc p = L at HLN HDC HTD HR5 e2 ⊢
    obtain ⟨l0, l1⟩ := HLN.out
    obtain ⟨B0, o0, rfl, -, -⟩ := HR5.out.at_ (k := 0) (by rw [bcells_len]; exact l0)
    have HE2 := Lib.hid e2
    have HE3 := Lib.hid e3
    clear h0 h1 hmay e4 e2 e3 HLN
    go_wp2_with (refine list_loadM rfl (.tmp 4) rfl g p a2 HB5.out rfl vC HVC.out ?_)
    refine (show Calls _ _ _ _ _ from HMS.out _ HK5.out).mono ?_
    rintro e w6 ⟨rfl, hk⟩
    have HK6 := Lib.hid (HK5.out.trans hk)
    have HB6 := Lib.hid (HB5.out.kp hk)
    have HR6 := Lib.hid (HR5.out.keep hk)
    clear hk HMS HK5 HB5 HR5
    have HD := Lib.hid (S.decode w6 (some ⟨B0, o0, none⟩) cb L (S.tk HT.out (HK4.out.trans HK6.out)) HR6.out HE2.out HE3.out (by omega))
    go_wp2_with fail
    refine (show Calls _ _ _ _ _ from HD.out).mono ?_
    rintro e w7 ⟨h1, -, hk⟩
    obtain ⟨b5, rfl, hat5⟩ := h1 _ HDC.out
    have HK7 := Lib.hid (HK6.out.trans hk)
    have HB7 := Lib.hid (HB6.out.kp hk)
    have HR7 := Lib.hid (HR6.out.keep hk)
    have HA7 := Lib.hid hat5
    obtain ⟨v5, hv5⟩ : ∃ v, msV p b5 = v := ⟨_, rfl⟩
    have HV5 := Lib.hid hv5
    rw [hv5]
    clear h1 hk hv5 HK6 HB6 HR6 HD hat5
    go_upto_region 9 with (first
      | (refine list_allocM rfl rfl ?_; intro w8 hb8 hk8 hs8)
      | (refine list_storeM rfl (.tmp 11) (.tmp 30) rfl _ _ p _ b5 hb8 rfl HV5.out.symm ?_; intro w9 hb9 hk9 hs9))
    have HKM := Lib.hid (kp_made hk8 hk9)
    have HK9 := Lib.hid (HK7.out.trans HKM.out)
    obtain ⟨g2, hg2⟩ : ∃ g, w7.heap.size = g := ⟨_, rfl⟩
    have HBY := Lib.hid hb9
    have HB9 := Lib.hid (HB7.out.kp HKM.out)
    have HR9 := Lib.hid (HR7.out.keep HKM.out)
    have HA9 := Lib.hid (HA7.out.keep HKM.out)
    have HG2 := Lib.hid (show g2 < w9.heap.size from by rw [← hg2]; exact hb9.lt)
    have HG3 := Lib.hid (show w4.heap.size ≤ g2 from by rw [← hg2]; exact HK7.out.size)
    rw [hg2] at HBY ⊢
    clear hb8 hk8 hs8 hb9 hk9 hs9 hg2 HKM HK7 HB7 HR7 HA7
    have t9 : ((L.length : Int) == 0) = false := beq_eq_false_iff_ne.2 (by omega)
    have HRE9 := HRE.out _ HK9.out b5 HA9.out
    rw [HV5.out] at HRE9
    have HR2 := Lib.hid HRE9
    clear HRE9 HRE HA9
    go_wp2_with (first
      | (refine list_loadM rfl (.tmp 4) rfl g p a2 HB9.out rfl vC HVC.out ?_)
      | (refine list_loadM rfl (.tmp 11) rfl g2 p b5 HBY.out rfl v5 HV5.out ?_))
    refine (show Calls _ _ _ _ _ from HR2.out).mono ?_
    rintro e w10 ⟨rfl, hk⟩
    have HK10 := Lib.hid (HK9.out.trans hk)
    have HR10 := Lib.hid (HR9.out.keep hk)
    have HB10 := Lib.hid (HBY.out.kp hk)
    have HG10 := Lib.hid (Nat.lt_of_lt_of_le HG2.out hk.size)
    clear hk HR2 HK9 HR9 HB9 HBY HG2
    have hsrc : ∀ wx, Row wx (some ⟨B0, o0, none⟩) (fun _ => True) (bcells L) → Src Tryd.prog 1 33 (.slice (some ⟨B0, o0, none⟩) L.length cb) L.length (bcells L) wx := fun wx h => by
      have := h.src (P := Tryd.prog) (c := cb) Tryd.underlying33 (bcells_one L)
      rwa [bcells_len] at this
    have HSRC := Lib.hid hsrc
    have HS10 := Lib.hid (hsrc w10 HR10.out)
    have hs10 := (HK4.out.trans HK10.out).size
    clear hsrc
    go_wp2_with (at_builtin; refine byte_elem.list_append rfl (.const (.slice none 0 0)) (.tmp 46) _ rfl rfl (World.ownsRow_nil _ w.heap.size _ _) rfl HS10.out ?c3 ?c4 ?c5 ?_)
    case c3 => unfold maxLen; omega
    case c4 => omega
    case c5 => exact hs10
    intro v11 w11 ho hg hb
    have hon : Onto w10 (.slice none 0 0) w11 v11 := (Onto.refl _ _).grown hg (by simpa using hb)
    have HK11 := Lib.hid (show Kp w10 w11 from hon.keeps (Keeps.refl _ _) (by simp [Value.ownBlock]))
    have HO11 := Lib.hid (show w11.ownsRow w.heap.size 5 1 v11 L.length (bcells L) from by simpa using ho)
    have HN11 := Lib.hid (show ∀ b, v11.ownBlock = some b → w10.heap.size ≤ b from fun b h => (hon.2 b h).resolve_left (by simp [Value.ownBlock]))
    obtain ⟨g11, c11, rfl, -, -⟩ := World.ownsRow.form HO11.out l0
    have HS11 := Lib.hid (src_one (P := Tryd.prog) Tryd.underlying33 w11 (.int .u8 (x.toNat : Int)) 5 rfl w11.heap.size rfl 1)
    have hs11 := (HK4.out.trans (HK10.out.trans HK11.out)).size
    clear ho hg hb hon HS10
    go_wp2_with (at_builtin; refine byte_elem.list_append rfl (.tmp 47) (.tmp 49) _ rfl rfl (HO11.out.alloc _) rfl HS11.out ?c3 ?c4 ?c5 ?_)
    case c3 => unfold maxLen; omega
    case c4 => omega
    case c5 => simp; omega
    intro v12 w12 ho hg hb
    have HK12 := Lib.hid (show Kp w10 w12 from (HK11.out.alloc _).grown hg fun j hj => HN11.out j hj)
    obtain ⟨g12, c12, rfl, -, -⟩ := World.ownsRow.form ho (by omega)
    have hrm := own_room ho
    have HD12 := Lib.hid (nobody S w12 (S.tk HT.out (HK4.out.trans (HK10.out.trans HK12.out))) (some ⟨g12, 0, none⟩) c12 (L ++ [x]) (by
      rw [← bcells_snoc]
      exact (own_row ho).mono fun _ _ _ => trivial) (by rw [List.length_append]; exact hrm.1) hrm.2 (by rw [List.length_append]; show L.length + 1 ≤ _; omega) (HTD.out.more x) (L.length + 1) (by rw [List.length_append]; rfl))
    clear ho hg hb hrm HS11 HO11 HN11 HK11
    go_wp2_with fail
    refine (show Calls _ _ _ _ _ from HD12.out).mono ?_
    rintro e w13 ⟨m13, a13, rfl, -, hk⟩
    have HK13 := Lib.hid (HK10.out.trans (HK12.out.trans hk))
    have HR13 := Lib.hid (HR10.out.keep (HK12.out.trans hk))
    have HB13 := Lib.hid (HB10.out.kp (HK12.out.trans hk))
    have HG13 := Lib.hid (Nat.lt_of_lt_of_le HG10.out (HK12.out.trans hk).size)
    generalize msV m13 a13 = v13
    clear hk HK12 HD12 HK10 HR10 HB10 HG10
    have hcs : decide (0 < cut) = false ∨ (decide (0 < cut) = true ∧ decide (cut ≤ (L.length : Int)) = false) ∨ ∃ k : Nat, cut = (k : Int) ∧ 0 < k ∧ k ≤ L.length := by
      by_cases h : 0 < cut
      · by_cases h2 : cut ≤ (L.length : Int)
        · exact .inr (.inr ⟨cut.toNat, by omega, by omega, by omega⟩)
        · exact .inr (.inl ⟨decide_eq_true h, decide_eq_false h2⟩)
      · exact .inl (decide_eq_false h)
    have hend : ∃ wz, Kp w13 wz ∧ True := ⟨w13, Keeps.refl _ _, trivial⟩
    clear hend
    rcases hcs with t1 | ⟨t1, t2⟩ | ⟨k, rfl, k0, k1⟩
    focus
      go_upto_region 18 with fail
      obtain ⟨wz, hwz⟩ : ∃ wz, w13 = wz := ⟨_, rfl⟩
      have HZ := Lib.hid (show Kp w13 wz from hwz ▸ Keeps.refl _ _)
      rw [hwz]
      clear hwz t1
    rotate_left
    focus
      go_upto_region 18 with fail
      obtain ⟨wz, hwz⟩ : ∃ wz, w13 = wz := ⟨_, rfl⟩
      have HZ := Lib.hid (show Kp w13 wz from hwz ▸ Keeps.refl _ _)
      rw [hwz]
      clear hwz t1 t2
    rotate_left
    focus
      have t1 : decide (0 < (k : Int)) = true := decide_eq_true (by omega)
      have t2 : decide ((k : Int) ≤ (L.length : Int)) = true := decide_eq_true (by omega)
      have hcb := HE2.out
      have hcut : (L.take (L.length - k)).length = L.length - k := by rw [List.length_take]; omega
      have HD := Lib.hid (nobody S w13 (S.tk HT.out (HK4.out.trans HK13.out)) (some ⟨B0, o0, none⟩) cb (L.take (L.length - k)) (bcells_take HR13.out _) (by rw [hcut]; have := HE2.out; omega) HE3.out (by rw [hcut]; omega) (HTD.out.cut _ (by omega)) (L.length - k) hcut)
      clear hcut
      go_wp2_with fail
      refine (show Calls _ _ _ _ _ from HD.out).mono ?_
      rintro e wz ⟨m14, a14, rfl, -, hk⟩
      have HZ := Lib.hid hk
      generalize msV m14 a14 = v14
      clear hk HD t1 t2 hcb
      go_upto_region 18 with fail
      clear k0 k1
    all_goals
      have HK14 := Lib.hid (HK13.out.trans HZ.out)
      have HR14 := Lib.hid (HR13.out.keep HZ.out)
      have HB14 := Lib.hid (HB13.out.kp HZ.out)
      have HG14 := Lib.hid (Nat.lt_of_lt_of_le HG13.out HZ.out.size)
      have HS14 := Lib.hid (HSRC.out wz HR14.out)
      have hs14 := (HK4.out.trans HK14.out).size
      have hcs : decide (pos < 0) = true ∨ (decide (pos < 0) = false ∧ ((x.toNat : Int) == 0) = true) ∨ ∃ N : Nat, pos = (N : Int) ∧ ((x.toNat : Int) == 0) = false ∧ x ≠ 0 := by
        by_cases h : pos < 0
        · exact .inl (decide_eq_true h)
        · by_cases h2 : x = 0
          · exact .inr (.inl ⟨decide_eq_false h, by rw [h2]; rfl⟩)
          · refine .inr (.inr ⟨pos.toNat, by omega, beq_eq_false_iff_ne.2 (fun e => h2 ?_), h2⟩)
            have : x.toNat = 0 := by omega
            exact UInt8.toNat_inj.1 this
      rcases hcs with t1 | ⟨t1, t2⟩ | ⟨N, hN, t2, hx0⟩
      · go_wp2_with fail
        go_ret
        exact ⟨rfl, HFIN.out _ (HK4.out.trans HK14.out)⟩
      · go_wp2_with fail
        go_ret
        exact ⟨rfl, HFIN.out _ (HK4.out.trans HK14.out)⟩
      · subst hN
        have t1 : decide ((N : Int) < 0) = false := by simp
        have hNb : (N : Int) < 9223372036854775808 := HP.out.2
        have HX0 := Lib.hid hx0
        clear hx0
        go_wp2_with (at_builtin; refine byte_elem.list_append rfl (.const (.slice none 0 0)) (.tmp 82) _ rfl rfl (World.ownsRow_nil _ w.heap.size _ _) rfl HS14.out ?c3 ?c4 ?c5 ?_)
        case c3 => unfold maxLen; omega
        case c4 => omega
        case c5 => exact hs14
        intro v15 w15 hown' hg hb
        have hon : Onto wz (.slice none 0 0) w15 v15 := (Onto.refl _ _).grown hg (by simpa using hb)
        have hk15 : Kp wz w15 := hon.keeps (Keeps.refl _ _) (by simp [Value.ownBlock])
        have ho : w15.ownsRow w.heap.size 5 1 v15 L.length (bcells L) := by simpa using hown'
        have hnew : ∀ b, v15.ownBlock = some b → wz.heap.size ≤ b := fun b h => (hon.2 b h).resolve_left (by simp [Value.ownBlock])
        obtain ⟨g15, c15, rfl, hge, hglt⟩ := World.ownsRow.form ho l0
        have hge2 : wz.heap.size ≤ g15 := hnew g15 rfl
        have hm : N % L.length < L.length := Nat.mod_lt _ l0
        have hcell : w15.cell? ⟨g15, N % L.length, none⟩ = some (.int .u8 ((L[N % L.length].toNat : Nat) : Int)) := (ho.cellAt (N % L.length) (by omega)).trans (by simp [bcells, bcell, hm])
        have hfz := ho.frozenAt (N % L.length)
        have hst := (ho.stored (N % L.length) (.int .u8 ((L[N % L.length].toNat ^^^ x.toNat : Nat) : Int))).1
        rw [turned_cells L (N % L.length) x hm] at hst
        have hxr : bits .xor .u8 ((L[N % L.length].toNat : Nat) : Int) ((x.toNat : Nat) : Int) = ((L[N % L.length].toNat ^^^ x.toNat : Nat) : Int) := u8_xor_nat _ _ L[N % L.length].toNat_lt x.toNat_lt
        have HTU := Lib.hid (HTD.out.turn (N % L.length) x hm HX0.out)
        have htl := turned_len L (N % L.length) x
        generalize turned L (N % L.length) x = U at hst HTU htl
        generalize L[N % L.length].toNat = ov at hcell hst hxr
        have hrm : ((N : Int).tmod (L.length : Int)) = ((N % L.length : Nat) : Int) := by rw [← Int.ofNat_tmod]
        have hcap := own_room ho
        have HST := Lib.hid hst
        have HK15 := Lib.hid hk15
        have HC2 := Lib.hid hcap
        have hc1 := hcap.1
        have hc2 := hcap.2
        unfold maxLen at hc2
        have HGE := Lib.hid hge2
        generalize hq : N % L.length = q at hm hcell hfz hst hxr hrm HST
        have HUL := Lib.hid htl
        clear ho hown' hst hg hb hk15 hcap hge hge2 hq hon hnew htl
        go_wp2_with fail
        have hk16 := HK15.out.setCell (p := ⟨g15, q, none⟩) (.inl HGE.out) (.int .u8 ((ov ^^^ x.toNat : Nat) : Int))
        have HK16 := Lib.hid (HK14.out.trans hk16)
        have HB16 := Lib.hid (HB14.out.kp hk16)
        have HD16 := Lib.hid (nobody S (w15.setCell ⟨g15, q, none⟩ (.int .u8 ((ov ^^^ x.toNat : Nat) : Int))) (S.tk HT.out (HK4.out.trans HK16.out)) (some ⟨g15, 0, none⟩) c15 U (by
            have h5 := HST.out
            exact (own_row (xs := bcells U) (n := L.length) h5).mono fun _ _ _ => trivial)
          (by rw [HUL.out]; exact HC2.out.1) HC2.out.2 (by rw [HUL.out]; omega) HTU.out L.length HUL.out)
        generalize w15.setCell ⟨g15, q, none⟩ (.int .u8 ((ov ^^^ x.toNat : Nat) : Int)) = w16 at *
        clear hk16 HST HK15 HGE hcell hfz hxr hrm
        refine (show Calls _ _ _ _ _ from HD16.out).mono ?_
        rintro e w17 ⟨m17, a17, rfl, hkd, hk⟩
        have HK17 := Lib.hid (HK16.out.trans hk)
        have HB17 := Lib.hid (HB16.out.kp hk)
        have HKD := Lib.hid hkd
        obtain ⟨v17, hv17⟩ : ∃ v, msV m17 a17 = v := ⟨_, rfl⟩
        have HV17 := Lib.hid hv17
        rw [hv17]
        clear hk HD16 hkd hv17
        go_upto_region 23 with (refine list_storeM rfl (.tmp 11) (.tmp 97) rfl g2 p m17 b5 a17 HB17.out rfl HV17.out.symm ?_; intro w18 hb18 hk18 hs18)
        have c0 := hb18.cell 0 (.int .i64 0) (by rw [← HKD.out]; rfl)
        have HK18 := Lib.hid (kp_behind HK17.out hk18 HG3.out)
        clear hb18 hk18 hs18
        go_wp2_with fail
        go_ret
        exact ⟨rfl, HFIN.out _ (HK4.out.trans HK18.out)⟩

end Go.Proofs.YtfhhobinpmbgmaaDoor.msgBytes
