/-
  THE WALK OF SlogOwn, however the program's log lies on its segments.
-/
import Derived.Test.YtgdbkmecfbkobaaDoorSlogBegun
namespace Go.Proofs.YtgdbkmecfbkobaaDoor.slogOwn
open Go Go.RowKit Go.Joins

set_option maxRecDepth 100000 in
set_option maxHeartbeats 4000000 in
theorem walk (S : SlogOK) (w : World) (hT : S.T w) (BA : Option Addr) (Bc : Nat) (l : List UInt8) (_f3 : l.length ≤ Bc) (_f4 : Bc ≤ maxLen) (_hf5 : BA = none → Bc = 0) (hB : Row w BA (fun b => b < w.heap.size) (bcells l)) :
    Calls Tryd.prog 6 #[.slice BA l.length Bc] w fun e w' => e = .returned (.bool true) ∧ Below w.heap.size w w' := by
  have HT := Lib.hid hT
  have f6 := Lib.hid hB
  unfold maxLen at _f4
  obtain ⟨m, hm⟩ : ∃ m, m = l.length := ⟨_, rfl⟩
  have Hm := Lib.hid hm
  rw [← hm] at _f3 ⊢
  have hcs : (m : Int) < 1 ∨ ((1 : Int) ≤ m ∧ (200 : Int) < m) ∨ ((1 : Int) ≤ m ∧ (m : Int) ≤ 200) := by omega
  clear hm hB hT _hf5
  go_enter Tryd.func6, Tryd.ntmps6
  go_wp2_with fail
  refine (begun6 S w HT.out).mono ?_
  rintro e w1 ⟨rfl, hk1⟩
  have HK1 := Lib.hid hk1
  have HS := Lib.hid (show Src Tryd.prog 1 31 (.slice BA m Bc) m (bcells l) w1 from by
    have := (f6.out.keep (hk1.mono fun _ _ _ => trivial)).src (c := Bc) Tryd.underlying31 (bcells_one l)
    rwa [bcells_len, ← Hm.out] at this)
  have hs1 := hk1.size
  clear hk1
  rcases hcs with c1 | ⟨c1, c2⟩ | ⟨c1, c2⟩
  · go_wp2_with fail
    go_ret
    exact ⟨rfl, HK1.out.below⟩
  · go_wp2_with fail
    go_ret
    exact ⟨rfl, HK1.out.below⟩
  · have m1 : 1 ≤ m := by omega
    have m2 : m ≤ 200 := by omega
    go_wp2_with (at_builtin; refine byte_elem.list_append rfl (.const (.slice none 0 0)) (.tmp 26) _ rfl rfl (World.ownsRow_nil _ w.heap.size _ _) rfl HS.out ?c3 ?c4 ?c5 ?_)
    case c3 => unfold maxLen; omega
    case c4 => omega
    case c5 => exact hs1
    intro v' w2 hown' hg hb
    have hk2 : Keeps (fun _ => True) w w2 := by
      exact ((Onto.refl _ _).grown hg (by simpa using hb)).keeps HK1.out (by simp [Value.ownBlock])
    have hown : OwnB w2 w.heap.size v' l := by unfold OwnB; rw [← Hm.out]; simpa using hown'
    obtain ⟨A, c, rfl, -, hrow⟩ := own_slice hown
    have hcap := own_cap hown
    rw [← Hm.out] at hcap
    have hoz : RowZ w2 w.heap.size 5 .u8 (.slice A m c) m := by rw [Hm.out]; exact rowZ_bytes hown
    have hblk := hown.lt
    rw [← Hm.out] at hblk ⊢
    have k0 : (convert 31 9 (.slice A m c)).run Tryd.prog w2 = .ok (.string (txt l)) w2 :=
      hrow.to_string Tryd.underlying31 Tryd.underlying5 Tryd.underlying9 _ _ Hm.out
    have HK2 := Lib.hid hk2
    have HR2 := Lib.hid hrow
    have HZ2 := Lib.hid hoz
    have HBL := Lib.hid hblk
    have hc1 := hcap.1
    have hc2 := hcap.2.1
    unfold maxLen at hc2
    clear hown hown' hg hb hk2 hrow hoz hblk hcap HS hs1 c1 c2
    go_wp2_with fail
    refine (dv_new HK2.out 40 (by decide) (by decide) 40 rfl).mono ?_
    rintro e w3 ⟨p, F, rfl, hd, hF, hk3⟩
    have HD := Lib.hid hd
    have HR3 := Lib.hid (HR2.out.keep (hk3.mono fun _ _ _ => trivial))
    have HZ3 := Lib.hid (HZ2.out.keep hk3 fun _ _ => trivial)
    have HFG := Lib.hid hF
    have hsz3 := hk3.size
    clear hd hF hk3 k0 HR2 HZ2
    go_wp2_with fail
    refine (lg_new S HT.out HD.out 0 4 0 4 rfl rfl (by decide) (by decide) (by decide) (fun j _ h2 => blank_getD 40 j (by omega))).mono ?_
    rintro e w4 ⟨q, Fs, f0, x0, rfl, hl, hx0, hFs, hk4⟩
    have HL := Lib.hid hl
    have HR4 := Lib.hid (HR3.out.keep (hk4.mono fun _ _ _ => trivial))
    have HZ4 := Lib.hid (HZ3.out.keep hk4 fun _ _ => trivial)
    have HSG := Lib.hid (show ∀ b, Fs.all b → w2.heap.size ≤ b from fun b hb => Nat.le_trans hsz3 (hFs b hb))
    have hsz4 := hk4.size
    clear hl hFs hk4 HR3 HZ3 HD
    go_wp2_with fail
    have ha := lg_append HT.out HL.out A c l m Hm.out (HR4.out.mono fun b _ hb => ⟨fun hf => by have := HFG.out b hf; omega, fun hf => by have := HSG.out b hf; omega⟩) (by have := Hm.out; omega) (by unfold maxLen; omega) (by have := Hm.out; omega) (by have := Hm.out; omega) (show (0 : Nat) ≤ _ by decide) (show x0 ≤ _ by omega)
    refine (show Calls _ _ _ _ _ from ha).mono ?_
    rintro e w5 ⟨x1, F1, Fs1, s1, g1, f1, y1, rfl, hl1, -, hx1, hy1, hm1⟩
    have hnot : ∀ b, (Value.slice A m c).ownBlock = some b → ¬ F1.all b ∧ ¬ Fs1.all b ∧ w.heap.size ≤ b := fun b hb => by
      have h1 := HBL.out b hb
      refine ⟨fun hF => ?_, fun hF => ?_, h1.1⟩
      · have : F.all b ∨ w4.heap.size ≤ b := by
          rcases hF with hF | hF
          · exact (hm1.f1 b hF).imp (fun h => .inl h) id
          · exact hm1.f2 b hF
        rcases this with h2 | h2
        · have := HFG.out b h2; omega
        · omega
      · have : Fs.all b ∨ w4.heap.size ≤ b := by
          rcases hF with hF | hF
          · exact (hm1.f3 b hF).imp (fun h => .inl h) id
          · exact hm1.f4 b hF
        rcases this with h2 | h2
        · have := HSG.out b h2; omega
        · omega
    have HZ5 := Lib.hid (HZ4.out.keep hm1.k fun b hb => by
      have h1 := HBL.out b hb
      exact ⟨fun hf => by have := HFG.out b (.inl hf); omega, fun hf => by have := HSG.out b (.inl hf); omega⟩)
    have hok := S.wf hl1.lg
    obtain rfl : g1 = 0 := hok.whole (by show (l.length + 60 + 400 * 0) + 0 ≤ 200 * (4 - 2); have := Hm.out; omega)
    have HL1 := Lib.hid hl1
    have HNOT := Lib.hid hnot
    clear ha hl1 hm1 hnot hok HL HZ4 HR4 HBL HFG HSG hsz3 hsz4
    go_wp2_with fail
    have hxin : (x1, l) ∈ LSt.recs ⟨p, 0, 4, [] ++ [⟨x1, l, 0⟩], 0, f1, y1⟩ := by simp [LSt.recs, LRec.key]
    have hrecs : LSt.recs ⟨p, 0, 4, [] ++ [⟨x1, l, 0⟩], 0, f1, y1⟩ = [(x1, l)] := rfl
    have HIN := Lib.hid hxin
    have HRECS := Lib.hid hrecs
    clear hxin hrecs
    generalize (⟨p, 0, 4, [] ++ [⟨x1, l, 0⟩], 0, f1, y1⟩ : LSt) = st at HL1 HIN HRECS
    go_loopw [9] (fun i wr => ∃ j : Nat, j ≤ m ∧ i = .int .i64 j ∧ RowZ wr w.heap.size 5 .u8 (.slice A m c) m ∧ Lg S w wr p q F1 Fs1 s1 st) (fun i _ => m - (intOf i).toNat)
    case atStart => exact ⟨0, Nat.zero_le _, rfl, HZ5.out, HL1.out⟩
    case round =>
      clear HZ5 HL1
      obtain ⟨j, hj, rfl, hz, hL⟩ := hrel
      have HZ := Lib.hid hz
      have HL := Lib.hid hL
      clear hz hL
      by_cases hjm : j < m
      · obtain ⟨g, rfl⟩ := HZ.out.form (by omega)
        obtain ⟨z, hcz⟩ := HZ.out.at_ hjm
        have hfz := HZ.out.frozen j
        have HG := Lib.hid (HNOT.out g rfl)
        have hjm' : (j : Int) < (m : Int) := by omega
        go_wp2_with fail
        go_roundw
        case rel => exact ⟨j + 1, by omega, by go_num, HZ.out.store j _, HL.out.store HG.out.2.2 HG.out.1 HG.out.2.1 j _⟩
        case measure => simp [intOf]; omega
      · have hjm' : ¬ (j : Int) < (m : Int) := by omega
        clear HZ HNOT
        go_wp2_with fail
        refine (lg_read HT.out HL.out x1 l HIN.out (x1 : Int) rfl).mono ?_
        rintro e w6 ⟨A6, c6, rfl, hc61, hc62, hr6, hm6, hk6⟩
        obtain ⟨g, o, rfl, hlt6⟩ := hm6.form (by have := Hm.out; omega)
        have hge : wr.heap.size ≤ g := by
          obtain ⟨b, o', e, hb, _⟩ := hr6 (by intro e; have h2 := Hm.out; have := congrArg List.length e; rw [bcells_len, List.length_nil] at this; omega)
          injection e with e
          injection e with e1 e2
          omega
        rw [← Hm.out] at hm6 hc61 ⊢
        have HLX := Lib.hid (show ¬ F1.all g ∧ ¬ Fs1.all g from ⟨fun hf => by have := HL.out.dv.d.lt _ hf; omega, fun hf => by have := S.lt HL.out.lg _ hf; omega⟩)
        have hgw : w.heap.size ≤ g := Nat.le_trans HL.out.dv.kp.size hge
        have HL6 := Lib.hid (HL.out.keep hk6)
        have HM6 := Lib.hid hm6
        unfold maxLen at hc62
        clear hr6 hm6 hk6 hlt6 hge HL
        go_wp2_with fail
        go_loopw [12] (fun i wr => ∃ j : Nat, j ≤ m ∧ i = .int .i64 j ∧ Mine wr .u8 (some ⟨g, o, none⟩) m ∧ Lg S w wr p q F1 Fs1 s1 st) (fun i _ => m - (intOf i).toNat)
        case atStart => exact ⟨0, Nat.zero_le _, rfl, HM6.out, HL6.out⟩
        case round =>
          clear HM6 HL6
          obtain ⟨j, hj, rfl, hz, hL⟩ := hrel
          have HZ := Lib.hid hz
          have HL := Lib.hid hL
          clear hz hL
          by_cases hjm2 : j < m
          · obtain ⟨⟨z, hcz⟩, hfz⟩ := HZ.out.at_ hjm2
            have hjm' : (j : Int) < (m : Int) := by omega
            go_wp2_with fail
            go_roundw
            case rel => exact ⟨j + 1, by omega, by go_num, HZ.out.store j _, HL.out.store hgw HLX.out.1 HLX.out.2 (o + j) _⟩
            case measure => simp [intOf]; omega
          · have hjm2' : ¬ (j : Int) < (m : Int) := by omega
            clear HZ
            go_wp2_with fail
            refine (lg_read HT.out HL.out x1 l HIN.out (x1 : Int) rfl).mono ?_
            rintro e w7 ⟨A7, c7, rfl, -, -, hr7, -, hk7⟩
            have HL7 := Lib.hid (HL.out.keep hk7)
            have HR7 := Lib.hid hr7
            clear hr7 hk7 HL
            go_wp2_with fail
            refine (lg_all HT.out HL7.out).mono ?_
            rintro e w8 ⟨A8, c8, rfl, hr8, hk8⟩
            rw [HRECS.out] at hr8 ⊢
            obtain ⟨b8, o8, rfl, hb8, hcell⟩ := hr8 (by simp)
            obtain ⟨h80, B8, d8, h81, hrow8⟩ := hcell 0 (by simp)
            have c81 : w8.cell? ⟨b8, o8 + 1, none⟩ = some (.slice B8 l.length d8) := h81
            have k1 : (convert 31 9 (.slice A7 l.length c7)).run Tryd.prog w8 = .ok (.string (txt l)) w8 :=
              (HR7.out.keep (hk8.mono fun _ _ _ => trivial)).to_string Tryd.underlying31 Tryd.underlying5 Tryd.underlying9 _ _ rfl
            have k2 : (convert 31 9 (.slice B8 l.length d8)).run Tryd.prog w8 = .ok (.string (txt l)) w8 :=
              (show Row w8 B8 _ (bcells l) from hrow8).to_string Tryd.underlying31 Tryd.underlying5 Tryd.underlying9 _ _ rfl
            have HE := Lib.hid (HL7.out.dv.kp.trans hk8)
            clear hr8 hcell h80 h81 hrow8 hk8 HL7 HR7
            simp only [List.length_cons, List.length_nil]
            go_wp2_with fail
            go_ret
            exact ⟨rfl, HE.out.below⟩

end Go.Proofs.YtgdbkmecfbkobaaDoor.slogOwn
