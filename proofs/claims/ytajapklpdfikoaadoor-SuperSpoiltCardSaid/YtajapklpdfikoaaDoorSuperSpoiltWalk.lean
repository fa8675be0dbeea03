/-
  THE WALK OF SuperSpoilt, whatever the program's slots are made of.
-/
import Derived.Test.YtajapklpdfikoaaDoorSuperBegun
import Derived.Test.YtajapklpdfikoaaDoorSuperLocs
import Derived.Test.YtajapklpdfikoaaDoorShort
import Derived.Laws.BitsAllLaws
import Derived.OwnWalk
import Derived.Outline
namespace Go.Proofs.YtajapklpdfikoaaDoor.superSpoilt
open Go Go.RowKit Go.Joins

def VS (q : Nat) (A : Option Addr) (ac : Nat) (a : List UInt8) : Nat → World → Value → Prop
  | 0 => IsV (.int .i64 0)
  | 1 => IsV (.bool true)
  | 2 => IsV (.bool true)
  | 3 => IsV (.pointer (some ⟨q, 0, none⟩))
  | 4 => TextV a
  | 5 => IsV (.string (txt a))
  | 6 => IsV (.slice A a.length ac)
  | 7 => IsV (.string (txt a))
  | 8 => IsV (.bool true)
  | 9 => IsV (.bool true)
  | 10 => IsV (.bool true)
  | 11 => IsV (.pointer (some ⟨q, 0, none⟩))
  | 12 => IsV (.int .i64 1)
  | 13 => IsV (.bool true)
  | 14 => IsV (.bool true)
  | 15 => IsV (.bool true)
  | _ => fun _ _ => True
def GS : Nat → Option Bool
  | 2 => some true
  | 10 => some true
  | _ => none
theorem VS_mono {q : Nat} {A : Option Addr} {ac : Nat} {a : List UInt8} (i : Nat) (w w' : World) (v : Value) (h : Kp w w') (hv : VS q A ac a i w v) : VS q A ac a i w' v := by
  match i, hv with
  | 0, hv => exact hv
  | 1, hv => exact hv
  | 2, hv => exact hv
  | 3, hv => exact hv
  | 4, hv => exact TextV.mono h hv
  | 5, hv => exact hv
  | 6, hv => exact hv
  | 7, hv => exact hv
  | 8, hv => exact hv
  | 9, hv => exact hv
  | 10, hv => exact hv
  | 11, hv => exact hv
  | 12, hv => exact hv
  | 13, hv => exact hv
  | 14, hv => exact hv
  | 15, hv => exact hv
  | n + 16, _ => trivial
theorem GS_is {q : Nat} {A : Option Addr} {ac : Nat} {a : List UInt8} (g : Nat) (c : Bool) (h : GS g = some c) (w : World) (v : Value) (hv : VS q A ac a g w v) : v = .bool c := by
  unfold GS at h
  split at h
  all_goals first | (cases h; exact hv) | cases h

/-- A sector with one byte turned. -/
def turned (e : List UInt8) (m : Nat) (x : UInt8) : List UInt8 := e.set m (e.getD m 0 ^^^ x)
theorem turned_len (e : List UInt8) (m : Nat) (x : UInt8) : (turned e m x).length = e.length := by simp [turned]
theorem turned_cells (e : List UInt8) (m : Nat) (x : UInt8) (h : m < e.length) : (bcells e).set m (.int .u8 ((e[m].toNat ^^^ x.toNat : Nat) : Int)) = bcells (turned e m x) := by
  unfold bcells turned
  rw [List.map_set, getD_mem _ _ _ h]
  congr 1
/-- The two sectors, where j of them have been looked at. -/
def rowsAt (e0 e1 : List UInt8) (m : Nat) (x : UInt8) (both : Bool) (j : Nat) : List (List UInt8) :=
  [if both = true ∧ 0 < j then turned e0 m x else e0, if 1 < j then turned e1 m x else e1]

set_option maxRecDepth 100000 in
set_option maxHeartbeats 4000000 in
theorem walk (S : SupOK) (w : World) (hT : S.T w) (PA : Option Addr) (PAc : Nat) (la : List UInt8) (a1 : la.length ≤ PAc) (a2 : PAc ≤ maxLen) (a3 : PA = none → PAc = 0) (a4 : Row w PA (fun b => b < w.heap.size) (bcells la))
    (PB : Option Addr) (PBc : Nat) (lb : List UInt8) (b1 : lb.length ≤ PBc) (b2 : PBc ≤ maxLen) (b3 : PB = none → PBc = 0) (b4 : Row w PB (fun b => b < w.heap.size) (bcells lb))
    (at_ : Int) (t1 : -9223372036854775808 ≤ at_) (t2 : at_ < 9223372036854775808) (x : UInt8) (both : Bool) :
    Calls Tryd.prog 5 #[.slice PA la.length PAc, .slice PB lb.length PBc, .int .i64 at_, .int .u8 (x.toNat : Int), .bool both] w fun e w' => e = .returned (.bool true) ∧ Below w.heap.size w w' := by
  have HT := Lib.hid hT
  have f3 := Lib.hid a3
  have g3 := Lib.hid b3
  have f4 := Lib.hid (bcells_take a4 40)
  have g4 := Lib.hid (bcells_take b4 40)
  have ftl : (la.take 40).length = min la.length 40 := by rw [List.length_take]; omega
  have gtl : (lb.take 40).length = min lb.length 40 := by rw [List.length_take]; omega
  have hcs : (decide (at_ < 0) = true) ∨ (decide (at_ < 0) = false ∧ ((x.toNat : Int) == 0) = true) ∨ (decide (at_ < 0) = false ∧ ((x.toNat : Int) == 0) = false) := by
    cases decide (at_ < 0) <;> cases ((x.toNat : Int) == 0) <;> simp
  clear hT a3 b3 a4 b4
  go_enter Tryd.func5, Tryd.ntmps5
  go_wp2_with fail
  refine (begun5 S w HT.out).mono ?_
  rintro e w1 ⟨rfl, hk1⟩
  have HK1 := Lib.hid hk1
  clear hk1
  go_wp2_with fail
  refine (short_at PA la.length PAc 40 40 (la.take 40).length rfl ftl _ a1 a2 f3.out (by decide)).mono ?_
  rintro e w' ⟨rfl, rfl⟩
  have f5 : (la.take 40).length ≤ PAc := by omega
  have f6 : (la.take 40).length ≤ 40 := by omega
  generalize la.take 40 = a at f4 f5 f6 ⊢
  clear ftl
  go_wp2_with fail
  refine (short_at PB lb.length PBc 40 40 (lb.take 40).length rfl gtl _ b1 b2 g3.out (by decide)).mono ?_
  rintro e w' ⟨rfl, rfl⟩
  have g5 : (lb.take 40).length ≤ PBc := by omega
  have g6 : (lb.take 40).length ≤ 40 := by omega
  unfold maxLen at a2 b2
  generalize lb.take 40 = b at g4 g5 g6 ⊢
  clear gtl a1 b1
  rcases hcs with c1 | ⟨c1, c2⟩ | ⟨c1, c2⟩
  · go_wp2_with fail
    go_ret
    exact ⟨rfl, HK1.out.below⟩
  · go_wp2_with fail
    go_ret
    exact ⟨rfl, HK1.out.below⟩
  · obtain ⟨N, rfl⟩ : ∃ N : Nat, at_ = (N : Int) := ⟨at_.toNat, by have := of_decide_eq_false c1; omega⟩
    have hx0 : x ≠ 0 := by intro e; subst e; simp at c2
    have HX := Lib.hid hx0
    clear hx0
    go_wp2_with fail
    refine (dv_new HK1.out 2 (by decide) (by decide) 2 rfl).mono ?_
    rintro e w2 ⟨p, F, rfl, hd, -, -⟩
    have HD := Lib.hid hd
    clear hd HK1 c1 c2
    go_wp2_with fail
    refine (duo_make S HT.out HD.out 0 0 rfl PA PAc a _ rfl (by decide) ((row_new (Fs := F) f4.out HD.out.kp HD.out.gd HD.out.gd).mono fun b _ hb => hb.1) f5 (by unfold maxLen; omega) f3.out f6 (by decide)).mono ?_
    rintro e w3 ⟨q, F3, Fs, n3, rfl, hd, hn3, -, -⟩
    have hn3' : n3 ≤ 100 := hn3
    have HD3 := Lib.hid hd
    clear hd hn3 HD
    go_wp2_with fail
    refine (duo_save HT.out HD3.out PB PBc b _ rfl (row_new g4.out HD3.out.dv.kp HD3.out.dv.gd HD3.out.gs) g5 (by unfold maxLen; omega) g3.out g6 (show n3 ≤ _ by omega) (show (1 : Nat) ≤ 549755813888 by decide)).mono ?_
    rintro e w4 ⟨rfl, F4, Fs4, n4, hd4, hn4, -, -, -, -, -⟩
    have hn4' : n4 ≤ n3 + 100 := hn4
    have l0 := S.encLen 1 a f6 (by decide) (by decide)
    have l1 := S.encLen 2 b g6 (by decide) (by decide)
    have HV := Lib.hid (show ∃ sd : SDev, Dv w w4 p F4 sd ∧ sd.now = rowsAt (S.enc 1 a) (S.enc 2 b) (N % 64) x both 0 ∧ sd.calls ≤ 300 from ⟨_, hd4.dv, by simp [rowsAt, SDev.still], show n4 ≤ 300 by omega⟩)
    have HL0 := Lib.hid l0
    have HL1 := Lib.hid l1
    have hm : N % 64 < 64 := Nat.mod_lt _ (by decide)
    clear hd4 hn4 HD3 l0 l1
    go_wp2_with fail
    go_loopw [15] (fun i wr => ∃ (j : Nat) (F : Foot) (sd : SDev), j ≤ 2 ∧ i = .int .i64 j ∧ Dv w wr p F sd ∧ sd.now = rowsAt (S.enc 1 a) (S.enc 2 b) (N % 64) x both j ∧ sd.calls ≤ 300 + j) (fun i _ => 2 - (intOf i).toNat)
    case atStart => obtain ⟨sd, h1, h2, h3⟩ := HV.out; exact ⟨0, F4, sd, Nat.zero_le _, rfl, h1, h2, h3⟩
    case round =>
      clear HV
      obtain ⟨j, F, sd, hj, rfl, hdv, hnow, hcalls⟩ := hrel
      have HD := Lib.hid hdv
      have HN := Lib.hid hnow
      clear hdv hnow
      by_cases hl : j < 2
      · have hl' : (j : Int) < 2 := by omega
        have hskip : (((j : Int) == 0) = true ∧ both = false) ∨ (((j : Int) == 0) = true ∧ both = true) ∨ (((j : Int) == 0) = false) := by
          cases both <;> cases ((j : Int) == 0) <;> simp
        obtain ⟨bo, hbo⟩ : ∃ bo : Bool, bo = both := ⟨both, rfl⟩
        have HNB := Lib.hid (show sd.now = rowsAt (S.enc 1 a) (S.enc 2 b) (N % 64) x bo j by rw [hbo]; exact HN.out)
        have HBO := Lib.hid hbo
        clear hbo HN
        rcases hskip with ⟨z1, rfl⟩ | ⟨z1, rfl⟩ | z1
        · have hj0 : j = 0 := by have := eq_of_beq z1; omega
          subst hj0
          clear z1
          go_wp2_with fail
          go_roundw
          case rel => exact ⟨1, F, sd, by omega, by go_num, HD.out, by rw [HNB.out, HBO.out]; rfl, by omega⟩
          case measure => simp [intOf]
        all_goals
          have hbw : bo = true ∨ j = 1 := by first | exact .inr (by have := ne_of_beq_false z1; omega) | exact .inl HBO.out
          have hrow : sd.now.getD j [] = (if j = 0 then S.enc 1 a else S.enc 2 b) := by
            rw [HNB.out]
            have : j = 0 ∨ j = 1 := by omega
            rcases this with rfl | rfl <;> simp [rowsAt]
          have hen : (if j = 0 then S.enc 1 a else S.enc 2 b).length = 64 := by split; exact HL0.out; exact HL1.out
          have hnx : sd.now.set j (turned (if j = 0 then S.enc 1 a else S.enc 2 b) (N % 64) x) = rowsAt (S.enc 1 a) (S.enc 2 b) (N % 64) x bo (j + 1) := by
            rw [HNB.out]
            have : j = 0 ∨ j = 1 := by omega
            rcases this with rfl | rfl
            · rcases hbw with hb | hb
              · simp [rowsAt, hb]
              · omega
            · simp [rowsAt]
          have hsl : sd.now.length = 2 := by rw [HNB.out]; rfl
          have hrd : sd.readL (j : Int) = (if j = 0 then S.enc 1 a else S.enc 2 b) := (if_neg (by omega)).trans (by rw [Int.toNat_natCast]; exact hrow)
          have hre : sd.readE (j : Int) = 0 := if_neg (by omega)
          generalize (if j = 0 then S.enc 1 a else S.enc 2 b) = ee at hrow hen hnx hrd
          have HEN := Lib.hid hen
          have HNX := Lib.hid hnx
          have HRD := Lib.hid hrd
          have HRE := Lib.hid hre
          have HSL := Lib.hid hsl
          have HBW := Lib.hid hbw
          clear hrow hen hnx hrd hre hsl hbw
          go_wp2_with fail
          refine (dread_any _ p F sd HD.out.d (j : Int) (by omega) (by omega)).mono ?_
          rintro e w5 ⟨v, rfl, ho, hk5⟩
          rw [HRD.out] at ho
          rw [HRE.out]
          obtain ⟨g, c, rfl, hge, hglt⟩ := World.ownsRow.form ho (by rw [HEN.out]; decide)
          rw [HEN.out]
          have ho' := ho
          unfold OwnB at ho'
          rw [HEN.out] at ho'
          have hNl : N % 64 < ee.length := by rw [HEN.out]; exact hm
          have hcell : w5.cell? ⟨g, N % 64, none⟩ = some (.int .u8 ((ee[N % 64]'hNl).toNat : Int)) := (ho'.cellAt (N % 64) (by omega)).trans (by simp [bcells, bcell, hNl])
          have hfz := ho'.frozenAt (N % 64)
          have hst := (ho'.stored (N % 64) (.int .u8 (((ee[N % 64]'hNl).toNat ^^^ x.toNat : Nat) : Int))).1
          rw [turned_cells ee (N % 64) x hNl] at hst
          have hxr : bits .xor .u8 ((((ee[N % 64]'hNl).toNat : Nat)) : Int) ((x.toNat : Nat) : Int) = (((ee[N % 64]'hNl).toNat ^^^ x.toNat : Nat) : Int) := u8_xor_nat _ _ (ee[N % 64]'hNl).toNat_lt x.toNat_lt
          generalize (ee[N % 64]'hNl).toNat = ov at hcell hst hxr
          have HST := Lib.hid hst
          have HD5 := Lib.hid (HD.out.keep hk5)
          have hgn : ∀ b, F.all b → b ≠ g := fun b hb e => by have := HD.out.d.lt b hb; omega
          have HD6 := Lib.hid (show Dv w (w5.setCell ⟨g, N % 64, none⟩ (.int .u8 ((ov ^^^ x.toNat : Nat) : Int))) p F sd from
            ⟨HD5.out.d.keep ((Keeps.refl _ _).setCell (.inr fun hf => hgn g hf rfl) _), HD5.out.gd, HD5.out.kp.setCell (.inl (Nat.le_trans HD.out.kp.size hge)) _⟩)
          have HGN := Lib.hid hgn
          clear ho ho' hk5 hst hgn hge
          go_wp2_with fail
          have hro : Row (w5.setCell ⟨g, N % 64, none⟩ (.int .u8 ((ov ^^^ x.toNat : Nat) : Int))) (some ⟨g, 0, none⟩) (fun b => ¬ F.all b) (bcells (turned ee (N % 64) x)) := (own_row HST.out).mono fun b _ hb hf => HGN.out b hf hb
          refine (dv_write64 HD6.out j (some ⟨g, 0, none⟩) c (turned ee (N % 64) x) 64 (by rw [turned_len, HEN.out]) (by rw [turned_len, HEN.out]) (by rw [HSL.out]; exact hl) hro (by omega)).mono ?_
          rintro e w6 ⟨rfl, F6, hd6, e1, e2, -⟩
          rw [HNX.out] at e1
          have HD7 := Lib.hid hd6
          have HE1 := Lib.hid e1
          have HE2 := Lib.hid e2
          clear hro hd6 e1 e2 HD HD5 HD6 HST hcell hfz hxr
          go_wp2_with fail
          go_roundw
          case rel => exact ⟨j + 1, F6, _, by omega, by go_num, HD7.out, by rw [HE1.out, HBO.out], by rw [HE2.out]; omega⟩
          case measure => simp [intOf]; omega
      · obtain rfl : j = 2 := by omega
        have hb1 : S.dec (turned (S.enc 2 b) (N % 64) x) = none := S.decBad 2 b (N % 64) x g6 (by decide) (by decide) hm HX.out
        have hb0 : S.dec (turned (S.enc 1 a) (N % 64) x) = none := S.decBad 1 a (N % 64) x f6 (by decide) (by decide) hm HX.out
        have hsl : 0 + 2 ≤ sd.now.length := by rw [HN.out]; exact Nat.le_refl _
        cases both
        · have hn : sd.now = [S.enc 1 a, turned (S.enc 2 b) (N % 64) x] := by rw [HN.out]; rfl
          have ho := duo_open S HT.out HD.out 0 0 1 a 0 rfl hsl (by decide) f6 (by decide) (by rw [hn]; rfl) (fun t' x' hx => by
            rw [hn] at hx
            have e : S.dec (turned (S.enc 2 b) (N % 64) x) = some (t', x') := hx
            rw [hb1] at e; cases e) (by decide)
          have HOp := Lib.hid ho
          clear hn ho hb1 hb0 hsl HN HD
          go_wp2_with fail
          refine HOp.out.mono ?_
          rintro e w7 ⟨q6, Fs6, rfl, hd6, -, -⟩
          have HD := Lib.hid hd6
          have HRA := Lib.hid (show Row w7 PA (fun _ => True) (bcells a) from (f4.out.keep (hd6.dv.kp.mono fun _ _ _ => trivial)).mono fun _ _ _ => trivial)
          clear hd6
          go_wp2_with fail
          refine wp_region_guard (R := Kp) (V := VS q6 PA PAc a) (w0 := w7) GS (by kernel_rfl) (fun w => Keeps.refl _ w) (fun _ _ _ h k => h.trans k) VS_mono (by kernel_rfl) GS_is (unwanted_of [] (by kernel_rfl) (fun _ h => by cases h)) ((Keeps.refl _ w7).drew) (each_of ?_) ?_
          · refine ⟨?_, ?_, ?_, ?_, ?_, ?_, ?_, ?_, ?_, ?_, ?_, ?_, ?_, ?_, ?_, ?_, trivial⟩ <;> intro hw a1 w2 L
            · exact kp_move rfl (L.old 14 (by kernel_rfl))
            · exact kp_eqE rfl rfl (L.val 0 87 (by kernel_rfl) (by kernel_rfl)) rfl
            · exact kp_move rfl (L.val 1 88 (by kernel_rfl) (by kernel_rfl))
            · exact kp_move rfl (L.old 18 (by kernel_rfl))
            · exact kp_text HT.out (HD.out.keep L.rel) rfl (L.val 3 90 (by kernel_rfl) (by kernel_rfl))
            · exact kp_string rfl Tryd.underlying31 Tryd.underlying5 Tryd.underlying9 (L.val 4 91 (by kernel_rfl) (by kernel_rfl))
            · exact kp_move rfl (L.old 0 (by kernel_rfl))
            · exact kp_string rfl Tryd.underlying31 Tryd.underlying5 Tryd.underlying9 ⟨_, _, L.val 6 93 (by kernel_rfl) (by kernel_rfl), HRA.out.keep L.rel⟩
            · exact kp_eqS (txt_eq a) rfl (L.val 5 92 (by kernel_rfl) (by kernel_rfl)) (L.val 7 94 (by kernel_rfl) (by kernel_rfl))
            · exact kp_pick rfl (L.val 2 89 (by kernel_rfl) (by kernel_rfl)) (L.val 8 95 (by kernel_rfl) (by kernel_rfl))
            · exact kp_move rfl (L.val 9 96 (by kernel_rfl) (by kernel_rfl))
            · exact kp_move rfl (L.old 18 (by kernel_rfl))
            · exact kp_turn (HD.out.keep L.rel).su rfl (L.val 11 98 (by kernel_rfl) (by kernel_rfl))
            · exact kp_eqI rfl rfl (L.val 12 99 (by kernel_rfl) (by kernel_rfl)) rfl
            · exact kp_pick rfl (L.val 10 97 (by kernel_rfl) (by kernel_rfl)) (L.val 13 100 (by kernel_rfl) (by kernel_rfl))
            · exact kp_assign rfl (L.val 14 101 (by kernel_rfl) (by kernel_rfl))
          · intro vs w8 hw8 hlen hv
            match vs, hlen with
            | [v0, v1, v2, v3, v4, v5, v6, v7, v8, v9, v10, v11, v12, v13, v14, v15], _ =>
              have e15 : v15 = .bool true := hv 15 10 (by kernel_rfl)
              clear hv
              subst e15
              have HE := Lib.hid (HD.out.dv.kp.trans hw8)
              simp only [putAll, List.map, Act.put, List.setIfInBounds_toArray, List.set_cons_succ, List.set_cons_zero, Exit.then]
              go_wp2
              go_ret
              exact ⟨rfl, HE.out.below⟩
        · have hn : sd.now = [turned (S.enc 1 a) (N % 64) x, turned (S.enc 2 b) (N % 64) x] := by rw [HN.out]; rfl
          have ho := S.openBad wr p F sd HD.out.d (S.tk HT.out HD.out.kp) 0 hsl (by rw [hn]; exact hb0) (by rw [hn]; exact hb1)
          have HOp := Lib.hid ho
          have HKD := Lib.hid HD.out.kp
          clear hn ho hb1 hb0 hsl HN HD
          go_wp2_with fail
          refine HOp.out.mono ?_
          rintro e w7 ⟨rfl, hk7⟩
          have HE := Lib.hid (HKD.out.trans hk7)
          clear hk7
          go_wp2_with fail
          go_ret
          exact ⟨rfl, HE.out.below⟩
end Go.Proofs.YtajapklpdfikoaaDoor.superSpoilt
