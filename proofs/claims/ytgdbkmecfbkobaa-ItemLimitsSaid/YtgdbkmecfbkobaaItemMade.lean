/-
  THE PROGRAM's ENTRIES: Decode; what the package keeps, together.
-/
import Derived.Test.YtgdbkmecfbkobaaItemDecs
import Derived.Test.YtgdbkmecfbkobaaItemTake
namespace Go.Proofs.Ytgdbkmecfbkobaa
open Go Go.RowKit Go.Joins

/-- What was read so far is what all would be ahead. -/
theorem bytes_ahead {l m : List It} {r : List UInt8} (hl : l.all It.may = true) (hm : m.all It.may = true) (h : bytesOf m = bytesOf l ++ r) : ∃ n, m = l ++ n ∧ r = bytesOf n ∧ n.all It.may = true := by
  induction l generalizing m with
  | nil => exact ⟨m, rfl, by simpa [bytesOf] using h.symm, hm⟩
  | cons x l ih =>
    cases m with
    | nil =>
      have := x.bytes_pos
      rw [bytesOf_cons] at h
      have h2 := congrArg List.length h
      simp only [List.length_append, bytesOf, List.flatMap_nil, List.length_nil] at h2
      omega
    | cons y m =>
      rw [List.all_cons, Bool.and_eq_true] at hl hm
      rw [bytesOf_cons, bytesOf_cons, List.append_assoc] at h
      obtain ⟨rfl, e⟩ := It.bytes_inj hm.1 hl.1 h
      obtain ⟨n, rfl, e2, e3⟩ := ih hl.2 hm.2 e
      exact ⟨n, rfl, e2, e3⟩

theorem own_form4 {w : World} {base n size : Nat} {e : TypeId} {v : Value} {xs : List Value} (h : w.ownsRow base e size v n xs) : ∃ A c, v = .slice A n c := by
  rcases h.2 with ⟨rfl, h0⟩ | ⟨g, cap, cur, rfl, r⟩
  · exact ⟨none, 0, by rw [h0]⟩
  · exact ⟨_, _, rfl⟩
set_option maxRecDepth 100000 in
set_option maxHeartbeats 1600000 in
theorem idecode (w : World) (A : Option Addr) (c : Nat) (b : List UInt8) (h : Row w A (fun _ => True) (bcells b)) (hlc : b.length ≤ c) (hcm : c ≤ maxLen) (hl : b.length ≤ 1000000) :
    Calls Try.prog 18 #[.slice A b.length c] w fun e w' => Keeps (fun _ => True) w w' ∧
      ((∃ B k l, e = .returned (.tuple #[.slice B l.length k, .int .i64 0]) ∧ l ≠ [] ∧ l.all It.may = true ∧ bytesOf l = b ∧ l.length ≤ k ∧ k ≤ maxLen ∧ ItsAt w' B (fun b => w.heap.size ≤ b ∧ b < w'.heap.size) l) ∨
       ((∀ l : List It, l ≠ [] → l.all It.may = true → bytesOf l ≠ b) ∧ ∃ B k, e = .returned (.tuple #[.slice B 0 k, .int .i64 1]))) := by
  unfold maxLen at hcm
  have HH := Lib.hid h
  obtain ⟨n, hn⟩ : ∃ n, b.length = n := ⟨_, rfl⟩
  have HN := Lib.hid hn
  rw [hn] at hlc hl ⊢
  clear hn h
  go_enter Try.func18, Try.ntmps18
  go_wp2_with fail
  go_loopw [0, 4] (fun s v wr => ∃ (A1 : Option Addr) (m c1 : Nat) (l : List It) (r : List UInt8), s = .slice A1 m c1 ∧ RowKit.Hid (r.length = m) ∧ m ≤ c1 ∧ c1 ≤ c ∧ m ≤ n ∧ RowKit.Hid (b = bytesOf l ++ r) ∧ RowKit.Hid (l.all It.may = true) ∧ RowKit.Hid (Row w A1 (fun _ => True) (bcells r)) ∧
      RowKit.Hid (wr.ownsRow w.heap.size 23 4 v l.length (itCells l)) ∧ RowKit.Hid (Kp w wr)) (fun s _ _ => match s with | .slice _ m _ => m | _ => 0)
  case atStart => exact ⟨A, n, c, [], b, rfl, HN, hlc, Nat.le_refl _, Nat.le_refl _, Lib.hid rfl, Lib.hid rfl, HH, Lib.hid (World.ownsRow_nil _ _ _ _), Lib.hid (Keeps.refl _ _)⟩
  case round =>
    obtain ⟨A1, m, c1, l, r, rfl, hm, hmc, hcc, hmn, hbr, hall, hrow, hown, hkp⟩ := hrel
    have hll : l.length ≤ 1000000 := by
      have h1 := bytesOf_four l
      have h2 := congrArg List.length hbr.out
      rw [List.length_append, HN.out] at h2
      omega
    by_cases hpos : 0 < m
    · have HD := Lib.hid (show Calls Try.prog 27 #[.slice A1 m c1] wr fun e w' => Kp wr w' ∧ DecPost r e from by
        have := idecode1 wr A1 c1 r (hrow.out.keep hkp.out) (by rw [hm.out]; exact hmc) (by unfold maxLen; omega) (by rw [hm.out]; omega)
        rw [hm.out] at this
        exact this)
      have t1 : decide ((0 : Int) < (m : Int)) = true := by simp; omega
      go_wp2_with fail
      refine HD.out.mono ?_
      rintro e w1 ⟨hk1, (⟨x, r2, rfl, hx, hr2⟩ | ⟨er, he0, her, rfl, hno⟩)⟩
      · have HX := Lib.hid hx
        have HR2 := Lib.hid hr2
        have hbl := It.bytes_len hx
        have hbp := x.bytes_pos
        have hxm := hm.out
        rw [hr2, List.length_append] at hxm
        obtain ⟨z, hz⟩ : ∃ z, x.bytes.length = z := ⟨_, rfl⟩
        have HZ := Lib.hid hz
        rw [hz] at hbl hbp hxm
        obtain ⟨z2, hz2⟩ : ∃ z2, r2.length = z2 := ⟨_, rfl⟩
        have HZ2 := Lib.hid hz2
        rw [hz2] at hxm
        rw [hz]
        have hzm : z ≤ m := by omega
        have hz2m : m - z = z2 := by omega
        have HK1 := Lib.hid (hkp.out.trans hk1)
        have HOWN := Lib.hid (hk1.own hown.out fun _ _ => trivial)
        have hsrc := src_item (w1.alloc (.cells #[.string x.key, .string x.val, .int .i64 x.till, .bool x.gone] 23)) x
        rw [show (w1.alloc (.cells #[.string x.key, .string x.val, .int .i64 x.till, .bool x.gone] 23)).heap.size = w1.heap.size + 1 by simp] at hsrc
        have HSRC := Lib.hid hsrc
        clear hsrc
        obtain ⟨g, o, rfl, -, -⟩ := hrow.out.at_ (k := 0) (by rw [bcells_len, hm.out]; omega)
        have hsz := HK1.out.size
        have hl1 : l.length + 1 ≤ 1000001 := by omega
        obtain ⟨q, hq⟩ : ∃ q, l.length = q := ⟨_, rfl⟩
        have HQ := Lib.hid hq
        rw [hq] at hl1 HOWN
        clear hz hz2 hx hr2 hk1 HD hq hll hown hkp
        go_wp2_with (at_builtin; refine item_elem.list_append rfl (.tmp 19) (.tmp 21) _ rfl rfl ((HOWN.out.alloc _).alloc _) rfl HSRC.out ?c3 ?c4 ?c5 ?_)
        case c3 => unfold maxLen; omega
        case c4 => omega
        case c5 => simp; omega
        intro v3 w3 ho3 hg3 hb3
        have hk3 : Kp w w3 := ((HK1.out.alloc _).alloc _).grown hg3 fun j hj => (HOWN.out.lt j hj).1
        have HK3 := Lib.hid hk3
        have HO3 := Lib.hid (show w3.ownsRow w.heap.size 23 4 v3 (l ++ [x]).length (itCells (l ++ [x])) from by
          rw [itCells_snoc, List.length_append, HQ.out]
          exact ho3)
        have HA3 := Lib.hid (show (l ++ [x]).all It.may = true from by simp [hall.out, HX.out])
        have HB3 := Lib.hid (show b = bytesOf (l ++ [x]) ++ r2 from by rw [bytesOf_snoc, List.append_assoc, ← HR2.out]; exact hbr.out)
        have HD2 := Lib.hid (show r.drop z = r2 from by rw [HR2.out, ← HZ.out]; exact List.drop_left)
        clear hk3 ho3 hg3 hb3 HSRC HOWN HK1
        by_cases hcz : c1 = z
        · have hmz : m = z := by omega
          subst hcz
          have HMZ := Lib.hid hmz
          clear hmz
          go_wp2_with fail
          go_roundw
          case rel => exact ⟨_, _, _, l ++ [x], r2, rfl, Lib.hid (by have := HZ2.out; have := HMZ.out; omega), by omega, by omega, by omega, HB3, HA3, Lib.hid (by rw [List.eq_nil_of_length_eq_zero (show r2.length = 0 by have := HZ2.out; have := HMZ.out; omega)]; exact Row.nil _ _ _), HO3, HK3⟩
          case measure => have := HMZ.out; simp; omega
        · have HROW := Lib.hid (cut_row hrow.out hm.out hzm hmc hcz)
          rw [HD2.out] at HROW
          have hnz : ¬ c1 = z := hcz
          have hzc : z ≤ c1 := by omega
          go_wp2_with fail
          go_roundw
          case rel => exact ⟨_, _, _, l ++ [x], r2, rfl, Lib.hid (by have := HZ2.out; omega), by omega, by omega, by omega, HB3, HA3, HROW, HO3, HK3⟩
          case measure => simp; omega
      · have HNO := Lib.hid hno
        have t2 : ((er : Int) != 0) = true := by simp; omega
        have HK1 := Lib.hid (hkp.out.trans hk1)
        clear hno hk1 HD
        go_wp2_with fail
        go_ret2
        refine ⟨HK1.out.alloc _, .inr ⟨fun l' hne hall' hb' => ?_, none, 0, rfl⟩⟩
        obtain ⟨n', rfl, hr', hn'⟩ := bytes_ahead hall.out hall' (hb'.trans hbr.out)
        cases n' with
        | nil =>
          have := hm.out
          rw [hr'] at this
          simp [bytesOf] at this
          omega
        | cons y n' =>
          rw [List.all_cons, Bool.and_eq_true] at hn'
          exact HNO.out y _ hn'.1 (hr'.trans (bytesOf_cons _ _))
    · obtain rfl : m = 0 := by omega
      have hr0 : r = [] := List.eq_nil_of_length_eq_zero hm.out
      by_cases hl0 : l = []
      · have HL0 := Lib.hid hl0
        subst hl0
        obtain ⟨A2, c2, rfl⟩ := own_form4 hown.out
        go_wp2_with fail
        go_ret2
        refine ⟨hkp.out, .inr ⟨fun l' hne hall' hb' => ?_, none, 0, rfl⟩⟩
        have := bytesOf_pos hne
        rw [hb', hbr.out, hr0] at this
        simp [bytesOf] at this
      · have hlp := List.length_pos_iff.2 hl0
        obtain ⟨g2, c2, rfl, -, -⟩ := hown.out.form hlp
        have HOWN := hown.out
        have t2 : ((l.length : Int) == 0) = false := by simp; omega
        have HL := Lib.hid (own_room HOWN)
        have HI := Lib.hid (ItsAt.of_own HOWN rfl)
        have HL0 := Lib.hid hl0
        have HR0 := Lib.hid hr0
        clear hl0 HOWN hr0
        go_wp2_with fail
        go_ret2
        exact ⟨hkp.out, .inl ⟨_, c2, l, rfl, HL0.out, hall.out, by rw [hbr.out, HR0.out, List.append_nil], HL.out.1, HL.out.2, HI.out⟩⟩

theorem own : ownKnob Try.prog.godebug = none := by kernel_rfl
set_option maxRecDepth 100000 in
theorem laidOut : laidOutB Try.prog = true := by kernel_rfl
/-- THE PROGRAM's PACKAGE OF ENTRIES. -/
def theItems : ItemOK where
  T := fun _ => True
  tk := fun _ _ => trivial
  may := fun w x _ hx => imay w x hx
  live := fun w x now _ hx h1 h2 => ilive w x hx now h1 h2
  encode := fun w A c l _ hA hl hc hn hf => iencode w A c l hA hl hc hn hf
  size := fun w A c l _ hA hl hc hn hf => isize w A c l hA hl hc hn hf
  decode := fun w A c b _ h h1 h2 h3 => idecode w A c b h h1 h2 h3

end Go.Proofs.Ytgdbkmecfbkobaa
