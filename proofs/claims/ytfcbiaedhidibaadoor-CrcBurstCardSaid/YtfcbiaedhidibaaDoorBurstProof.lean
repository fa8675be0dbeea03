/-
  For every slice of bytes, every place and every further slice of bytes: CrcBurst answers true (up to four bytes behind one another that were changed change the sum).
  Conditions: none (the table of half bytes is tied to the program's text by the card).
-/
import Derived.Test.YtfcbiaedhidibaaDoorCrcLaid
import Derived.Test.YtfcbiaedhidibaaDoorShort
import Derived.Test.YtfcbiaedhidibaaDoorCrcOne
import Derived.Test.YtfcbiaedhidibaaDoorCrcPatch
import Derived.Test.YtfcbiaedhidibaaDoorCards
import Derived.SevenTiedAt
namespace Go.Proofs.YtfcbiaedhidibaaDoor.crcBurst
open Go Go.ChangeShapes Go.WideShapes Go.ChangeAt Go.RowKit

set_option maxHeartbeats 1000000 in
/-- From the loop over the change on: the change lies inside. -/
theorem walkInside (A X : Option Addr) (cap capx L LX : Nat) (l x : List UInt8) (a : Nat) (w : World) (hlen : l.length = min L 200) (hlenx : x.length = min LX 4) (h1 : L ≤ cap) (h2 : cap ≤ maxLen) (h3 : A = none → cap = 0) (hA : Row w A (fun b => b < w.heap.size) (bcells l))
    (k1 : LX ≤ capx) (k2 : capx ≤ maxLen) (k3 : X = none → capx = 0) (hX : Row w X (fun b => b < w.heap.size) (bcells x)) (hT : Taken w) (ha : a + x.length ≤ l.length) (hnz : anyNZ x = true) :
    Calls Tryd.prog 4 #[.slice A L cap, .int .i64 (a : Int), .slice X LX capx] w fun e w' => e = .returned (.bool true) ∧ Below w.heap.size w w' := by
  have hl : l.length ≤ 200 := by omega
  have hx : x.length ≤ 4 := by omega
  have Hmath := Lib.hid (patch_burst a x l ha hx hnz)
  have HA := Lib.hid hA
  have HX := Lib.hid hX
  have HT := Lib.hid hT
  have Hn := Lib.hid hnz
  have H1 := Lib.hid hlen
  have H2 := Lib.hid hlenx
  clear hA hX hT hnz hlen hlenx
  go_enter Tryd.func4, Tryd.ntmps4
  go_wp2_with fail
  refine (begun_any _ HT.out).mono ?_
  rintro e w1 ⟨rfl, hb1⟩
  have HB1 := Lib.hid hb1
  clear hb1
  go_wp2_with fail
  refine (short_at A L cap 200 200 l.length rfl H1.out _ h1 h2 h3 (by decide)).mono ?_
  rintro e w' ⟨rfl, rfl⟩
  go_wp2_with fail
  refine (short_at X LX capx 4 4 x.length rfl H2.out _ k1 k2 k3 (by decide)).mono ?_
  rintro e w' ⟨rfl, rfl⟩
  go_wp2
  go_loop [8, 9] (fun t i => ∃ k : Nat, k ≤ x.length ∧ i = .int .i64 k ∧ t = .bool (anyNZ (x.take k))) (fun _ i => x.length - (intOf i).toNat)
  case atStart => exact ⟨0, Nat.zero_le _, rfl, rfl⟩
  case round =>
    obtain ⟨k, hk, rfl, rfl⟩ := hrel
    by_cases hlt : k < x.length
    · obtain ⟨b, o, rfl, hbF, hcell⟩ := (HX.out).at_ (k := k) (by simpa [bcells] using hlt)
      simp only [bcells, List.getElem_map, bcell] at hcell
      have hcell1 : w1.cell? ⟨b, o + k, none⟩ = some (.int .u8 (x[k].toNat : Int)) := by rw [HB1.out.cell (p := ⟨b, o + k, none⟩) hbF]; exact hcell
      have H := Lib.hid (anyNZ_next x k hlt)
      have H0 := Lib.hid (byte_ne x[k])
      clear hcell hbF
      cases hv : anyNZ (x.take k)
      · rw [hv] at H
        clear hv
        go_wp2
        go_round
        case rel => exact ⟨k + 1, by omega, by go_num, by rw [H.out, ← H0.out]; rfl⟩
        case measure => simp [intOf]; omega
      · rw [hv] at H
        clear hv
        go_wp2
        go_round
        case rel => exact ⟨k + 1, by omega, by go_num, by rw [H.out]; rfl⟩
        case measure => simp [intOf]; omega
    · obtain rfl : k = x.length := by omega
      rw [List.take_length, Hn.out]
      clear hlt
      have hA1 := HA.out.keep (Keeps.of_below HB1.out _)
      have hX1 := HX.out.keep (Keeps.of_below HB1.out _)
      have hsrc : Src Tryd.prog 1 24 (.slice A l.length cap) l.length (bcells l) w1 := by
        have := hA1.src (c := cap) Tryd.underlying24 (bcells_one l)
        rwa [bcells_len] at this
      have HS := Lib.hid hsrc
      have HA1 := Lib.hid hA1
      have HX1 := Lib.hid hX1
      have hsz := HB1.out.size
      clear hsrc hA1 hX1
      go_wp2_with (at_builtin; refine byte_elem.list_append rfl (.const (.slice none 0 0)) (.tmp 48) _ rfl rfl (World.ownsRow_nil _ w.heap.size _ _) rfl HS.out ?c3 ?c4 hsz ?_)
      case c3 => unfold maxLen; omega
      case c4 => omega
      intro v' w2 hown' hg hb
      have hown : OwnB w2 w.heap.size v' (patch a 0 x l) := by rw [patch_zero]; unfold OwnB; simpa using hown'
      have hk2 : Keeps (fun _ => True) w w2 := by
        exact ((Onto.refl _ _).grown hg (by simpa using hb)).keeps (Keeps.of_below HB1.out _) (by simp [Value.ownBlock])
      clear hown' hg hb
      have hpos : 0 < l.length := by
        rcases Nat.eq_zero_or_pos x.length with h0 | h0
        · have := Hn.out
          rw [List.eq_nil_of_length_eq_zero h0] at this
          cases this
        · omega
      unfold OwnB at hown
      rw [patch_len] at hown
      obtain ⟨g, cc, rfl, hgb, _⟩ := hown.form hpos
      have HO := Lib.hid hown
      have HK := Lib.hid hk2
      clear hown hk2
      go_wp2
      go_loopw [11] (fun i wr => ∃ j : Nat, j ≤ x.length ∧ i = .int .i64 j ∧ wr.ownsRow w.heap.size 5 1 (.slice (some ⟨g, 0, none⟩) l.length cc) l.length (bcells (patch a j x l)) ∧ Keeps (fun _ => True) w wr) (fun i _ => x.length - (intOf i).toNat)
      case atStart => exact ⟨0, Nat.zero_le _, rfl, HO.out, HK.out⟩
      case round =>
        obtain ⟨j, hj, rfl, hown, hkp⟩ := hrel
        by_cases hlj : j < x.length
        · obtain ⟨b, o, rfl, _, hcell⟩ := (HX.out.keep (hkp.mono fun _ _ _ => trivial)).at_ (k := j) (by simpa [bcells] using hlj)
          simp only [bcells, List.getElem_map, bcell] at hcell
          have haj : a + j < l.length := by omega
          have hc2 : wr.cell? ⟨g, a + j, none⟩ = some (.int .u8 ((l[a + j].toNat : Nat) : Int)) := (hown.cellAt (a + j) (by omega)).trans (patch_at a j x l haj)
          have hf2 : wr.frozen? ⟨g, a + j, none⟩ = false := hown.frozenAt (a + j)
          have E := patch_next a j x l hlj haj
          have e8 : bits .xor .u8 ((l[a + j].toNat : Nat) : Int) ((x[j].toNat : Nat) : Int) = ((l[a + j].toNat ^^^ x[j].toNat : Nat) : Int) :=
            u8_xor_nat _ _ l[a + j].toNat_lt x[j].toNat_lt
          have hst := hown.stored (a + j) (.int .u8 ((l[a + j].toNat ^^^ x[j].toNat : Nat) : Int))
          rw [E] at hst
          have HS2 := Lib.hid hst
          have hi1 : (0 : Int) ≤ (a : Int) + (j : Int) := by omega
          have hi2 : (a : Int) + (j : Int) < (l.length : Int) := by omega
          generalize l[a + j] = p at hc2 e8 HS2
          generalize x[j] = q at hcell e8 HS2
          have HK3 := Lib.hid hkp
          clear hst E hown hkp
          go_wp2
          go_region
          go_wp2
          go_roundw
          case rel => exact ⟨j + 1, by omega, by go_num, HS2.out.1, (HK3.out.setCell (p := ⟨g, a + j, none⟩) (.inl hgb) _).drew⟩
          case measure => simp [intOf]; omega
        · obtain rfl : j = x.length := by omega
          have HO3 := Lib.hid hown
          have HK3 := Lib.hid hkp
          have hcl : (patch a x.length x l).length = l.length := patch_len _ _ _ _
          have H3 := Lib.hid hcl
          clear hown hkp hcl hlj
          have hown := HO3.out
          rw [← H3.out] at hown
          have HR := Lib.hid (Row.of_own (xs := bcells (patch a x.length x l)) (by rw [bcells_len]; exact hown))
          have Hne := Lib.hid (show ((((crcN l : Nat) : Int)) != ((crcN (patch a x.length x l) : Nat) : Int)) = true by
            have := Hmath.out
            simp; omega)
          clear hown
          go_wp2_with fail
          ((with_reducible refine (sum_new A cap l l.length rfl (fun b => b < w.heap.size) _ _ rfl (HA.out.keep (HK3.out.mono fun _ _ _ => trivial)) ?c1 (HT.out.keep HK3.out)).mono ?_))
          case c1 => unfold maxLen; omega
          rintro e w' ⟨rfl, rfl⟩
          go_wp2_with fail
          ((with_reducible refine (sum_new (some ⟨g, 0, none⟩) cc (patch a x.length x l) l.length H3.out.symm _ _ (wr.heap.size + 1) ?c2 (HR.out.alloc _) ?c3 ((HT.out.keep HK3.out).alloc _)).mono ?_))
          case c2 => simp
          case c3 => rw [H3.out]; unfold maxLen; omega
          rintro e w' ⟨rfl, rfl⟩
          have ht := Hne.out
          go_wp2
          go_ret
          exact ⟨rfl, ((HK3.out.alloc _).alloc _).below⟩

set_option maxHeartbeats 1000000 in
/-- The change lies outside, or is none. -/
theorem walkOutside (A X : Option Addr) (cap capx L LX : Nat) (l x : List UInt8) (n : Int) (w : World) (hlen : l.length = min L 200) (hlenx : x.length = min LX 4) (h1 : L ≤ cap) (h2 : cap ≤ maxLen) (h3 : A = none → cap = 0)
    (k1 : LX ≤ capx) (k2 : capx ≤ maxLen) (k3 : X = none → capx = 0) (hX : Row w X (fun b => b < w.heap.size) (bcells x)) (hT : Taken w) (hn1 : -9223372036854775808 ≤ n) (hn2 : n < 9223372036854775808)
    (hout : n < 0 ∨ (0 ≤ n ∧ (l.length : Int) - (x.length : Int) < n) ∨ (0 ≤ n ∧ n ≤ (l.length : Int) - (x.length : Int) ∧ anyNZ x = false)) :
    Calls Tryd.prog 4 #[.slice A L cap, .int .i64 n, .slice X LX capx] w fun e w' => e = .returned (.bool true) ∧ Below w.heap.size w w' := by
  have hl : l.length ≤ 200 := by omega
  have hx : x.length ≤ 4 := by omega
  have HX := Lib.hid hX
  have HT := Lib.hid hT
  have Ho := Lib.hid hout
  have H1 := Lib.hid hlen
  have H2 := Lib.hid hlenx
  clear hX hT hlen hlenx hout
  go_enter Tryd.func4, Tryd.ntmps4
  go_wp2_with fail
  refine (begun_any _ HT.out).mono ?_
  rintro e w1 ⟨rfl, hb1⟩
  have HB1 := Lib.hid hb1
  clear hb1
  go_wp2_with fail
  refine (short_at A L cap 200 200 l.length rfl H1.out _ h1 h2 h3 (by decide)).mono ?_
  rintro e w' ⟨rfl, rfl⟩
  go_wp2_with fail
  refine (short_at X LX capx 4 4 x.length rfl H2.out _ k1 k2 k3 (by decide)).mono ?_
  rintro e w' ⟨rfl, rfl⟩
  go_wp2
  go_loop [8, 9] (fun t i => ∃ k : Nat, k ≤ x.length ∧ i = .int .i64 k ∧ t = .bool (anyNZ (x.take k))) (fun _ i => x.length - (intOf i).toNat)
  case atStart => exact ⟨0, Nat.zero_le _, rfl, rfl⟩
  case round =>
    obtain ⟨k, hk, rfl, rfl⟩ := hrel
    by_cases hlt : k < x.length
    · obtain ⟨b, o, rfl, hbF, hcell⟩ := (HX.out).at_ (k := k) (by simpa [bcells] using hlt)
      simp only [bcells, List.getElem_map, bcell] at hcell
      have hcell1 : w1.cell? ⟨b, o + k, none⟩ = some (.int .u8 (x[k].toNat : Int)) := by rw [HB1.out.cell (p := ⟨b, o + k, none⟩) hbF]; exact hcell
      have H := Lib.hid (anyNZ_next x k hlt)
      have H0 := Lib.hid (byte_ne x[k])
      clear hcell hbF
      cases hv : anyNZ (x.take k)
      · rw [hv] at H
        clear hv
        go_wp2
        go_round
        case rel => exact ⟨k + 1, by omega, by go_num, by rw [H.out, ← H0.out]; rfl⟩
        case measure => simp [intOf]; omega
      · rw [hv] at H
        clear hv
        go_wp2
        go_round
        case rel => exact ⟨k + 1, by omega, by go_num, by rw [H.out]; rfl⟩
        case measure => simp [intOf]; omega
    · obtain rfl : k = x.length := by omega
      rw [List.take_length]
      clear hlt
      have hbel := HB1
      rcases Ho.out with ho | ⟨h0, ho⟩ | ⟨h0, hle, ho⟩
      · generalize anyNZ x = s
        cases s
        all_goals
          go_wp2
          go_ret
          exact ⟨rfl, HB1.out⟩
      · generalize anyNZ x = s
        cases s
        all_goals
          go_wp2
          go_ret
          exact ⟨rfl, HB1.out⟩
      · rw [ho]
        clear ho
        go_wp2
        go_ret
        exact ⟨rfl, HB1.out⟩

theorem walk (A X : Option Addr) (cap capx : Nat) (l x : List UInt8) (n : Int) (hn : (Lit.int .i64 n).wf = true) (w : World) (h1 : l.length ≤ cap) (h2 : cap ≤ maxLen) (h3 : A = none → cap = 0) (hA : Row w A (fun b => b < w.heap.size) (bcells l))
    (k1 : x.length ≤ capx) (k2 : capx ≤ maxLen) (k3 : X = none → capx = 0) (hX : Row w X (fun b => b < w.heap.size) (bcells x)) (hT : Taken w) :
    Calls Tryd.prog 4 #[.slice A l.length cap, .int .i64 n, .slice X x.length capx] w fun e w' => e = .returned (.bool true) ∧ Below w.heap.size w w' := by
  have hb := bounds_i64 hn
  have el : (l.take 200).length = min l.length 200 := by rw [List.length_take]; omega
  have ex : (x.take 4).length = min x.length 4 := by rw [List.length_take]; omega
  have rA : Row w A (fun b => b < w.heap.size) (bcells (l.take 200)) := by have := hA.take (k := 200); rwa [show (bcells l).take 200 = bcells (l.take 200) from by simp [bcells]] at this
  have rX : Row w X (fun b => b < w.heap.size) (bcells (x.take 4)) := by have := hX.take (k := 4); rwa [show (bcells x).take 4 = bcells (x.take 4) from by simp [bcells]] at this
  by_cases c1 : n < 0
  · exact walkOutside A X cap capx _ _ (l.take 200) (x.take 4) n w el ex h1 h2 h3 k1 k2 k3 rX hT hb.1 (by omega) (.inl c1)
  · by_cases c2 : ((l.take 200).length : Int) - ((x.take 4).length : Int) < n
    · exact walkOutside A X cap capx _ _ (l.take 200) (x.take 4) n w el ex h1 h2 h3 k1 k2 k3 rX hT hb.1 (by omega) (.inr (.inl ⟨by omega, c2⟩))
    · cases c3 : anyNZ (x.take 4)
      · exact walkOutside A X cap capx _ _ (l.take 200) (x.take 4) n w el ex h1 h2 h3 k1 k2 k3 rX hT hb.1 (by omega) (.inr (.inr ⟨by omega, by omega, c3⟩))
      · obtain ⟨a, rfl⟩ : ∃ a : Nat, n = (a : Int) := ⟨n.toNat, by omega⟩
        exact walkInside A X cap capx _ _ (l.take 200) (x.take 4) a w el ex h1 h2 h3 rA k1 k2 k3 rX hT (by omega) c3

theorem lawWalk (H : Type) (enc : TypeId × Value → H) : LawWalk H enc Tryd.prog 4 Tryd.f4 (laidMetH Tryd.prog listed) := by
  intro W base args ds p hval hA hL
  rw [Tryd.params4] at hA hval
  obtain ⟨v0, vs0, d0, ds0, p0, q0, hargs, rfl, rfl, h0, r0⟩ := trodAll_cons hA
  obtain ⟨v1, vs1, d1, ds1, p1, q1, rfl, rfl, rfl, h1, r1⟩ := trodAll_cons r0
  obtain ⟨v2, vs2, d2, ds2, p2, q2, rfl, rfl, rfl, h2, r2⟩ := trodAll_cons r1
  obtain ⟨rfl, rfl, rfl⟩ := trodAll_nil r2
  obtain rfl : args = #[v0, v1, v2] := by cases args; simp_all
  obtain ⟨A, cap, l, rfl, a1, a2, a3, a4⟩ := open_bytes Tryd.underlying24 Tryd.underlying5 (by kernel_rfl) (hval 0 24 v0 rfl rfl) h0
  obtain ⟨n, rfl, _, _, wn⟩ := open_int Tryd.underlying3 (hval 1 3 v1 rfl rfl) h1
  obtain ⟨X, capx, x, rfl, b1, b2, b3, b4⟩ := open_bytes Tryd.underlying24 Tryd.underlying5 (by kernel_rfl) (hval 2 24 v2 rfl rfl) h2
  exact walk A X cap capx l x n wn W a1 a2 a3 a4 b1 b2 b3 b4 (taken_of hL)

set_option maxRecDepth 100000 in
theorem lifted (os : Os) (started : os.Started) (H : Type) (enc : TypeId × Value → H) :
    ReturnsInHanded {} Tryd.checked os 4 .any (fun w args => (Rows.crcBurstSpec.pre enc Tryd.prog Tryd.f4 [] false w args ∧ laidMetH Tryd.prog listed w) ∧ sizedMet enc Tryd.prog Tryd.f4 (OpenSpec.ofChange Rows.crcBurstSpec) false w args)
      (Rows.crcBurstSpec.post enc Tryd.prog Tryd.f4 false true false false) :=
  law_laid (C := Tryd.checked) (X := laidMetH Tryd.prog listed) (tb := 4) (fun _ _ hh h => h.of_heap hh) own started (by kernel_rfl) Tryd.func4
    (ChangeSpec.witness_shaped (enc := enc) (C := Tryd.checked) (os := os) (X := fun w _ => laidMetH Tryd.prog listed w) false (World.doorLaid Tryd.prog 400 os) #[.slice none 0 0, .int .i64 0, .slice none 0 0] 8 rfl (World.shaped_of_RefB (by kernel_rfl) (by kernel_rfl)) (by kernel_rfl) (by kernel_rfl) (by kernel_rfl) (door_met os _))
    laidOut (by kernel_rfl) (by kernel_rfl) Tryd.underlying4 rfl (fun ds h => by match ds, h with | [_, _, _], _ => rfl) (lawWalk H enc)

theorem over : Rows.crcBurstRow.holds Tryd.pinned (OpenSpec.ofChange Rows.crcBurstSpec) :=
  OpenClaim.holds_of_wide 4 Tryd.f4 rfl rfl rfl rfl rfl rfl rfl ⟨rfl, rfl, rfl, rfl, rfl⟩ rfl rfl rfl rfl rfl (by kernel_rfl) Tryd.func4 (by kernel_rfl)
    (of_decide_eq_true (by kernel_rfl)) (by unfold Func.isWrapper; first | (rw [if_pos (by decide +kernel)]; kernel_rfl) | (rw [if_neg (by decide +kernel)]; exact ⟨rfl, rfl⟩))
    (fun os started H enc _ => lifted os started H enc)

/-- The statement. -/
theorem proved : Rows.CrcBurstCardSaid :=
  Claim7.holds_tied_plain_at .later [] [.data] true (true, Rows.crcBurstCard.stood.harness.2) false
    over (fun _ h => by cases h) (by kernel_rfl) (fun _ h => by cases h) crcBurst_row_tie rfl ⟨rfl, rfl⟩ (by kernel_rfl) rfl
    (fun f fn hf hfn => by
      obtain rfl : f = 4 := Option.some.inj ((show Tryd.prog.funcNamed "icehouse/icehouselaw3.CrcBurst" = some 4 by kernel_rfl).symm.trans hf) |>.symm
      obtain rfl : fn = Tryd.f4 := (Option.some.inj (Tryd.func4.symm.trans hfn)).symm
      exact ⟨by kernel_rfl, fun j t ht => by
        rw [Tryd.params4] at ht
        have hm : t ∈ [24, 3, 24] := by simpa using Array.mem_of_getElem? ht
        have hall : ([24, 3, 24].all fun u => !Tryd.prog.wantsStandIn u) = true := by kernel_rfl
        exact (show Tryd.prog.wantsStandIn t = false by simpa using List.all_eq_true.1 hall t hm)⟩)
    (by kernel_rfl)
#print axioms proved
end Go.Proofs.YtfcbiaedhidibaaDoor.crcBurst
