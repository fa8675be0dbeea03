/-
  THE WALK OF CrcCuts.
-/
import Derived.Test.YtfcbiaedhidibaaDoorCrcOne
import Derived.Test.YtfcbiaedhidibaaDoorFrame
namespace Go.Proofs.YtfcbiaedhidibaaDoor.crcCuts
open Go Go.RowKit

theorem parts_elem : Elem Tryd.prog 22 24 (.slice none 0 0) 1 24 := ⟨Tryd.underlying22, by kernel_rfl, rfl, by decide⟩
theorem tmod_bd (c : Int) : -19 ≤ c.tmod 20 ∧ c.tmod 20 ≤ 19 := by
  have h1 := Int.tmod_lt_of_pos c (show (0 : Int) < 20 by decide)
  have h2 := Int.tmod_lt_of_pos (-c) (show (0 : Int) < 20 by decide)
  rw [Int.neg_tmod] at h2
  omega
theorem joined_snoc (ps : List Part) (p : Part) : joined (ps ++ [p]) = joined ps ++ p.l := by simp [joined]
theorem take_more (l : List UInt8) (a n : Nat) : l.take (a + n) = l.take a ++ (l.drop a).take n := by rw [List.take_add]

set_option maxRecDepth 100000 in
set_option maxHeartbeats 1000000 in
theorem walk_m (w : World) (A B : Option Addr) (ca cb m L : Nat) (l : List UInt8) (cs : List Int) (hm : m = min L 200) (hlm : l.length = m) (a1 : L ≤ ca) (a2 : ca ≤ maxLen) (a3 : A = none → ca = 0) (a4 : Row w A (fun b => b < w.heap.size) (bcells l))
    (b1 : cs.length ≤ cb) (b2 : cb ≤ maxLen) (b4 : Row w B (fun b => b < w.heap.size) (cs.map (Value.int .i64))) (hT : Taken w) :
    Calls Tryd.prog 6 #[.slice A L ca, .slice B cs.length cb] w fun e w' => e = .returned (.bool true) ∧ Below w.heap.size w w' := by
  have HA := Lib.hid a4
  have HB := Lib.hid b4
  have HT := Lib.hid hT
  have Hm := Lib.hid hm
  have Hl := Lib.hid hlm
  have H3 := Lib.hid a3
  have hm200 : m ≤ 200 := by omega
  have hmL : m ≤ L := by omega
  have hcase : (200 < L ∧ m = 200) ∨ (¬ 200 < L ∧ m = L) := by omega
  have HC := Lib.hid hcase
  clear a4 b4 hT hm hlm a3 hcase
  unfold maxLen at a2 b2
  go_enter Tryd.func6, Tryd.ntmps6
  go_wp2_with fail
  refine (begun_any _ HT.out).mono ?_
  rintro e w1 ⟨rfl, hb1⟩
  have HK1 := Lib.hid (Keeps.of_below hb1 (fun _ => True))
  have hsz := hb1.size
  clear hb1
  have hrest : A = none → L = 0 := fun h => by have := H3.out h; omega
  have hfirst : 200 < L → ∃ ad, A = some ad := fun h => by
    rcases A with _ | ad
    · have := hrest rfl; omega
    · exact ⟨ad, rfl⟩
  have HF := Lib.hid hfirst
  clear hrest hfirst
  rcases HC.out with ⟨hc, he⟩ | ⟨hc, he⟩
  · obtain ⟨ad, rfl⟩ := HF.out hc
    have hcb : decide ((200 : Int) < (L : Int)) = true := by simp; omega
    have HE := Lib.hid he
    clear he
    go_wp2
    rw [← HE.out]
    go_loopw [6, 7, 8] (fun u v i wr => ∃ (k a : Nat) (qs : List Part), k ≤ 31 ∧ a ≤ m ∧ (a < m → k ≤ 30) ∧ i = .int .i64 k ∧ v = .int .i64 a ∧ qs.length = k ∧ joined qs = l.take a ∧ Parts wr (fun b => b < w.heap.size) qs ∧
      wr.ownsRow w.heap.size 24 1 u k (qs.map Part.val) ∧ Keeps (fun _ => True) w wr) (fun _ _ i _ => 31 - (intOf i).toNat)
    case atStart => exact ⟨0, 0, [], by omega, by omega, by omega, rfl, rfl, rfl, rfl, (fun p hp => by cases hp), World.ownsRow_nil _ _ _ _, HK1.out⟩
    case round =>
      obtain ⟨k, a, qs, hk, ha, hak, rfl, rfl, hql, hqj, hqp, hown, hkp⟩ := hrel
      by_cases hlt : a < m
      · have hk30 := hak hlt
        obtain ⟨b, o, hAe, -, -⟩ := HA.out.at_ (k := a) (by have := Hl.out; simp [bcells]; omega)
        cases hAe
        have hr0 := HA.out.keep (hkp.mono fun _ _ _ => trivial)
        have ed : (m : Int) - (a : Int) = ((m - a : Nat) : Int) := by omega
        have HJ := Lib.hid hqj
        have HP := Lib.hid hqp
        have HQ := Lib.hid hql
        have HO := Lib.hid hown
        have HK := Lib.hid hkp
        have HR := Lib.hid hr0
        have hwz := hkp.size
        clear hqj hqp hql hown hkp hr0 hak
        obtain ⟨n, hn1, hn2, hwalk⟩ : ∃ n : Nat, n ≤ m - a ∧ (a + n < m → k + 1 ≤ 30) ∧
            ((k < cs.length ∧ k < 30 ∧ ∃ c : Int, (Row wr B (fun b => b < w.heap.size) (cs.map (Value.int .i64)) → ∃ bb ob, B = some ⟨bb, ob, none⟩ ∧ wr.cell? ⟨bb, ob + k, none⟩ = some (.int .i64 c)) ∧
              (-19 ≤ c.tmod 20 ∧ c.tmod 20 ≤ 19) ∧ (if c.tmod 20 % 20 < ((m - a : Nat) : Int) then c.tmod 20 % 20 else ((m - a : Nat) : Int)) = (n : Int)) ∨ (¬ (k < cs.length ∧ k < 30) ∧ n = m - a)) := by
          by_cases hc2 : k < cs.length ∧ k < 30
          · have hb := tmod_bd cs[k]
            refine ⟨min (cs[k].tmod 20 % 20).toNat (m - a), by omega, by omega, .inl ⟨hc2.1, hc2.2, cs[k], fun h => ?_, hb, by split <;> omega⟩⟩
            obtain ⟨bb, ob, e1, _, e2⟩ := h.at_ (k := k) (by simpa using hc2.1)
            exact ⟨bb, ob, e1, by simpa using e2⟩
          · exact ⟨m - a, by omega, by omega, .inr ⟨hc2, rfl⟩⟩
        have hnew : Row wr (some ⟨b, o + a, none⟩) (fun b => b < w.heap.size) (bcells ((l.drop a).take n)) := by
          have h1 := HR.out.cut (k := a) (cap := ca) (by have := Hl.out; simp [bcells]; omega) (by have := Hl.out; simp [bcells]; omega)
          rw [if_neg (by omega)] at h1
          have h2 : Row wr (some ⟨b, o + a, none⟩) (fun b => b < w.heap.size) (bcells (l.drop a)) := by
            have e : (bcells l).drop a = bcells (l.drop a) := by simp [bcells]
            rw [← e]
            simpa [WideShapes.add_plain] using h1
          exact bcells_take h2 n
        have hlen : ((l.drop a).take n).length = n := by have := Hl.out; rw [List.length_take, List.length_drop]; omega
        have hjn : joined (qs ++ [⟨some ⟨b, o + a, none⟩, ca - a, (l.drop a).take n⟩]) = l.take (a + n) := by rw [joined_snoc, HJ.out, take_more]
        have hpn : Parts wr (fun b => b < w.heap.size) (qs ++ [⟨some ⟨b, o + a, none⟩, ca - a, (l.drop a).take n⟩]) := by
          intro p hp
          rcases List.mem_append.1 hp with h | h
          · exact HP.out p h
          · rw [List.mem_singleton.1 h]; exact ⟨hnew, by rw [hlen]; unfold maxLen; omega⟩
        have hvn : (qs ++ [(⟨some ⟨b, o + a, none⟩, ca - a, (l.drop a).take n⟩ : Part)]).map Part.val = qs.map Part.val ++ [.slice (some ⟨b, o + a, none⟩) n (ca - a)] := by
          rw [List.map_append]; simp [Part.val, hlen]
        have hln : (qs ++ [(⟨some ⟨b, o + a, none⟩, ca - a, (l.drop a).take n⟩ : Part)]).length = k + 1 := by rw [List.length_append, HQ.out]; rfl
        have J1 := Lib.hid hjn
        have J2 := Lib.hid hpn
        have J3 := Lib.hid hvn
        have J4 := Lib.hid hln
        clear hnew hlen hjn hpn hvn hln HJ HP HQ
        generalize (qs ++ [(⟨some ⟨b, o + a, none⟩, ca - a, (l.drop a).take n⟩ : Part)]) = qn at J1 J2 J3 J4
        have hcan : ca ≠ a := by omega
        have hd1 : a + (m - a) ≤ m := by omega
        have hd2 : m ≤ a + (m - a) := by omega
        generalize m - a = d at ed hn1 hwalk hd1 hd2
        have elen : ((a : Int) + (n : Int)).toNat - a = n := by omega
        rcases hwalk with ⟨hc1, hc2, c, hcell, ⟨hb1, hb2⟩, hmin⟩ | ⟨hc1, rfl⟩
        · obtain ⟨bb, ob, rfl, hcell⟩ := hcell (HB.out.keep (HK.out.mono fun _ _ _ => trivial))
          have hc2' : (k : Int) < 30 := by omega
          go_wp2_with (at_builtin; refine parts_elem.list_append rfl (.tmp 45) (.tmp 52) _ rfl rfl (HO.out.alloc _) rfl (src_one Tryd.underlying22 _ _ _ ?c1 _ ?c2 _) ?c3 ?c4 ?c5 ?_)
          case c1 => rfl
          case c2 => rfl
          case c3 => unfold maxLen; omega
          case c4 => omega
          case c5 => first | omega | (simp; omega)
          intro u' w2 hown' hg hb
          rw [← J3.out] at hown'
          have hg2 : wr.grownBy w2 u6.ownBlock := grown_of_alloc hg
          have hk2 : Keeps (fun _ => True) w w2 := HK.out.grown hg2 fun b hb => (HO.out.lt b hb).1
          have hp2 : Parts w2 (fun b => b < w.heap.size) qn := J2.out.keep (Keeps.of_grown hg2 fun b hb _ hlt => by have := (HO.out.lt b hb).1; omega)
          have Q1 := Lib.hid hown'
          have Q2 := Lib.hid hk2
          have Q3 := Lib.hid hp2
          clear hown' hg hb hg2 hk2 hp2 hmin elen ed hb1 hb2
          go_wp2
          go_roundw
          case rel => exact ⟨k + 1, a + n, qn, by omega, by omega, by omega, by go_num, by go_num, J4.out, J1.out, Q3.out, Q1.out, Q2.out⟩
          case measure => simp [intOf]; omega
        · by_cases hc3 : k < cs.length
          · have hc4 : ¬ (k : Int) < 30 := by omega
            go_wp2_with (at_builtin; refine parts_elem.list_append rfl (.tmp 45) (.tmp 52) _ rfl rfl (HO.out.alloc _) rfl (src_one Tryd.underlying22 _ _ _ ?c1 _ ?c2 _) ?c3 ?c4 ?c5 ?_)
            case c1 => rfl
            case c2 => rfl
            case c3 => unfold maxLen; omega
            case c4 => omega
            case c5 => first | omega | (simp; omega)
            intro u' w2 hown' hg hb
            rw [← J3.out] at hown'
            have hg2 : wr.grownBy w2 u6.ownBlock := grown_of_alloc hg
            have hk2 : Keeps (fun _ => True) w w2 := HK.out.grown hg2 fun b hb => (HO.out.lt b hb).1
            have hp2 : Parts w2 (fun b => b < w.heap.size) qn := J2.out.keep (Keeps.of_grown hg2 fun b hb _ hlt => by have := (HO.out.lt b hb).1; omega)
            have Q1 := Lib.hid hown'
            have Q2 := Lib.hid hk2
            have Q3 := Lib.hid hp2
            clear hown' hg hb hg2 hk2 hp2 elen ed
            go_wp2
            go_roundw
            case rel => exact ⟨k + 1, a + n, qn, by omega, by omega, by omega, by go_num, by go_num, J4.out, J1.out, Q3.out, Q1.out, Q2.out⟩
            case measure => simp [intOf]; omega
          · have hc4 : ¬ (k : Int) < (cs.length : Int) := by omega
            go_wp2_with (at_builtin; refine parts_elem.list_append rfl (.tmp 45) (.tmp 52) _ rfl rfl (HO.out.alloc _) rfl (src_one Tryd.underlying22 _ _ _ ?c1 _ ?c2 _) ?c3 ?c4 ?c5 ?_)
            case c1 => rfl
            case c2 => rfl
            case c3 => unfold maxLen; omega
            case c4 => omega
            case c5 => first | omega | (simp; omega)
            intro u' w2 hown' hg hb
            rw [← J3.out] at hown'
            have hg2 : wr.grownBy w2 u6.ownBlock := grown_of_alloc hg
            have hk2 : Keeps (fun _ => True) w w2 := HK.out.grown hg2 fun b hb => (HO.out.lt b hb).1
            have hp2 : Parts w2 (fun b => b < w.heap.size) qn := J2.out.keep (Keeps.of_grown hg2 fun b hb _ hlt => by have := (HO.out.lt b hb).1; omega)
            have Q1 := Lib.hid hown'
            have Q2 := Lib.hid hk2
            have Q3 := Lib.hid hp2
            clear hown' hg hb hg2 hk2 hp2 elen ed
            go_wp2
            go_roundw
            case rel => exact ⟨k + 1, a + n, qn, by omega, by omega, by omega, by go_num, by go_num, J4.out, J1.out, Q3.out, Q1.out, Q2.out⟩
            case measure => simp [intOf]; omega
      · obtain rfl : a = m := by omega
        obtain ⟨BB, dd, rfl, -, rowB⟩ := own_slice hown
        rw [← Hl.out, List.take_length] at hqj
        have HJ := Lib.hid hqj
        have HP := Lib.hid hqp
        have HQ := Lib.hid hql.symm
        have HK := Lib.hid hkp
        have HR := Lib.hid (HA.out.keep (hkp.mono fun _ _ _ => trivial))
        have HB2 := Lib.hid rowB
        have HT2 := Lib.hid (HT.out.keep hkp)
        clear hqj hqp hql hkp rowB hown
        go_wp2_with fail
        ((with_reducible refine (sum_at BB k dd (fun b => b < w.heap.size) _ qs _ HQ.out HB2.out HP.out ?c1 HT2.out).mono ?_))
        case c1 => unfold maxLen; omega
        rintro e w' ⟨rfl, rfl⟩
        rw [HJ.out]
        go_wp2_with fail
        ((with_reducible refine (sum_new _ ca l a Hl.out.symm _ _ _ rfl HR.out ?c3 HT2.out).mono ?_))
        case c3 => rw [Hl.out]; unfold maxLen; omega
        rintro e w' ⟨rfl, rfl⟩
        go_wp2
        go_ret
        exact ⟨rfl, (HK.out.alloc _).below⟩
  · have hcb : decide ((200 : Int) < (L : Int)) = false := by simp; omega
    have HE := Lib.hid he
    clear he
    go_wp2
    rw [← HE.out]
    go_loopw [6, 7, 8] (fun u v i wr => ∃ (k a : Nat) (qs : List Part), k ≤ 31 ∧ a ≤ m ∧ (a < m → k ≤ 30) ∧ i = .int .i64 k ∧ v = .int .i64 a ∧ qs.length = k ∧ joined qs = l.take a ∧ Parts wr (fun b => b < w.heap.size) qs ∧
      wr.ownsRow w.heap.size 24 1 u k (qs.map Part.val) ∧ Keeps (fun _ => True) w wr) (fun _ _ i _ => 31 - (intOf i).toNat)
    case atStart => exact ⟨0, 0, [], by omega, by omega, by omega, rfl, rfl, rfl, rfl, (fun p hp => by cases hp), World.ownsRow_nil _ _ _ _, HK1.out⟩
    case round =>
      obtain ⟨k, a, qs, hk, ha, hak, rfl, rfl, hql, hqj, hqp, hown, hkp⟩ := hrel
      by_cases hlt : a < m
      · have hk30 := hak hlt
        obtain ⟨b, o, hAe, -, -⟩ := HA.out.at_ (k := a) (by have := Hl.out; simp [bcells]; omega)
        cases hAe
        have hr0 := HA.out.keep (hkp.mono fun _ _ _ => trivial)
        have ed : (m : Int) - (a : Int) = ((m - a : Nat) : Int) := by omega
        have HJ := Lib.hid hqj
        have HP := Lib.hid hqp
        have HQ := Lib.hid hql
        have HO := Lib.hid hown
        have HK := Lib.hid hkp
        have HR := Lib.hid hr0
        have hwz := hkp.size
        clear hqj hqp hql hown hkp hr0 hak
        obtain ⟨n, hn1, hn2, hwalk⟩ : ∃ n : Nat, n ≤ m - a ∧ (a + n < m → k + 1 ≤ 30) ∧
            ((k < cs.length ∧ k < 30 ∧ ∃ c : Int, (Row wr B (fun b => b < w.heap.size) (cs.map (Value.int .i64)) → ∃ bb ob, B = some ⟨bb, ob, none⟩ ∧ wr.cell? ⟨bb, ob + k, none⟩ = some (.int .i64 c)) ∧
              (-19 ≤ c.tmod 20 ∧ c.tmod 20 ≤ 19) ∧ (if c.tmod 20 % 20 < ((m - a : Nat) : Int) then c.tmod 20 % 20 else ((m - a : Nat) : Int)) = (n : Int)) ∨ (¬ (k < cs.length ∧ k < 30) ∧ n = m - a)) := by
          by_cases hc2 : k < cs.length ∧ k < 30
          · have hb := tmod_bd cs[k]
            refine ⟨min (cs[k].tmod 20 % 20).toNat (m - a), by omega, by omega, .inl ⟨hc2.1, hc2.2, cs[k], fun h => ?_, hb, by split <;> omega⟩⟩
            obtain ⟨bb, ob, e1, _, e2⟩ := h.at_ (k := k) (by simpa using hc2.1)
            exact ⟨bb, ob, e1, by simpa using e2⟩
          · exact ⟨m - a, by omega, by omega, .inr ⟨hc2, rfl⟩⟩
        have hnew : Row wr (some ⟨b, o + a, none⟩) (fun b => b < w.heap.size) (bcells ((l.drop a).take n)) := by
          have h1 := HR.out.cut (k := a) (cap := ca) (by have := Hl.out; simp [bcells]; omega) (by have := Hl.out; simp [bcells]; omega)
          rw [if_neg (by omega)] at h1
          have h2 : Row wr (some ⟨b, o + a, none⟩) (fun b => b < w.heap.size) (bcells (l.drop a)) := by
            have e : (bcells l).drop a = bcells (l.drop a) := by simp [bcells]
            rw [← e]
            simpa [WideShapes.add_plain] using h1
          exact bcells_take h2 n
        have hlen : ((l.drop a).take n).length = n := by have := Hl.out; rw [List.length_take, List.length_drop]; omega
        have hjn : joined (qs ++ [⟨some ⟨b, o + a, none⟩, ca - a, (l.drop a).take n⟩]) = l.take (a + n) := by rw [joined_snoc, HJ.out, take_more]
        have hpn : Parts wr (fun b => b < w.heap.size) (qs ++ [⟨some ⟨b, o + a, none⟩, ca - a, (l.drop a).take n⟩]) := by
          intro p hp
          rcases List.mem_append.1 hp with h | h
          · exact HP.out p h
          · rw [List.mem_singleton.1 h]; exact ⟨hnew, by rw [hlen]; unfold maxLen; omega⟩
        have hvn : (qs ++ [(⟨some ⟨b, o + a, none⟩, ca - a, (l.drop a).take n⟩ : Part)]).map Part.val = qs.map Part.val ++ [.slice (some ⟨b, o + a, none⟩) n (ca - a)] := by
          rw [List.map_append]; simp [Part.val, hlen]
        have hln : (qs ++ [(⟨some ⟨b, o + a, none⟩, ca - a, (l.drop a).take n⟩ : Part)]).length = k + 1 := by rw [List.length_append, HQ.out]; rfl
        have J1 := Lib.hid hjn
        have J2 := Lib.hid hpn
        have J3 := Lib.hid hvn
        have J4 := Lib.hid hln
        clear hnew hlen hjn hpn hvn hln HJ HP HQ
        generalize (qs ++ [(⟨some ⟨b, o + a, none⟩, ca - a, (l.drop a).take n⟩ : Part)]) = qn at J1 J2 J3 J4
        have hcan : ca ≠ a := by omega
        have hd1 : a + (m - a) ≤ m := by omega
        have hd2 : m ≤ a + (m - a) := by omega
        generalize m - a = d at ed hn1 hwalk hd1 hd2
        have elen : ((a : Int) + (n : Int)).toNat - a = n := by omega
        rcases hwalk with ⟨hc1, hc2, c, hcell, ⟨hb1, hb2⟩, hmin⟩ | ⟨hc1, rfl⟩
        · obtain ⟨bb, ob, rfl, hcell⟩ := hcell (HB.out.keep (HK.out.mono fun _ _ _ => trivial))
          have hc2' : (k : Int) < 30 := by omega
          go_wp2_with (at_builtin; refine parts_elem.list_append rfl (.tmp 45) (.tmp 52) _ rfl rfl (HO.out.alloc _) rfl (src_one Tryd.underlying22 _ _ _ ?c1 _ ?c2 _) ?c3 ?c4 ?c5 ?_)
          case c1 => rfl
          case c2 => rfl
          case c3 => unfold maxLen; omega
          case c4 => omega
          case c5 => first | omega | (simp; omega)
          intro u' w2 hown' hg hb
          rw [← J3.out] at hown'
          have hg2 : wr.grownBy w2 u6.ownBlock := grown_of_alloc hg
          have hk2 : Keeps (fun _ => True) w w2 := HK.out.grown hg2 fun b hb => (HO.out.lt b hb).1
          have hp2 : Parts w2 (fun b => b < w.heap.size) qn := J2.out.keep (Keeps.of_grown hg2 fun b hb _ hlt => by have := (HO.out.lt b hb).1; omega)
          have Q1 := Lib.hid hown'
          have Q2 := Lib.hid hk2
          have Q3 := Lib.hid hp2
          clear hown' hg hb hg2 hk2 hp2 hmin elen ed hb1 hb2
          go_wp2
          go_roundw
          case rel => exact ⟨k + 1, a + n, qn, by omega, by omega, by omega, by go_num, by go_num, J4.out, J1.out, Q3.out, Q1.out, Q2.out⟩
          case measure => simp [intOf]; omega
        · by_cases hc3 : k < cs.length
          · have hc4 : ¬ (k : Int) < 30 := by omega
            go_wp2_with (at_builtin; refine parts_elem.list_append rfl (.tmp 45) (.tmp 52) _ rfl rfl (HO.out.alloc _) rfl (src_one Tryd.underlying22 _ _ _ ?c1 _ ?c2 _) ?c3 ?c4 ?c5 ?_)
            case c1 => rfl
            case c2 => rfl
            case c3 => unfold maxLen; omega
            case c4 => omega
            case c5 => first | omega | (simp; omega)
            intro u' w2 hown' hg hb
            rw [← J3.out] at hown'
            have hg2 : wr.grownBy w2 u6.ownBlock := grown_of_alloc hg
            have hk2 : Keeps (fun _ => True) w w2 := HK.out.grown hg2 fun b hb => (HO.out.lt b hb).1
            have hp2 : Parts w2 (fun b => b < w.heap.size) qn := J2.out.keep (Keeps.of_grown hg2 fun b hb _ hlt => by have := (HO.out.lt b hb).1; omega)
            have Q1 := Lib.hid hown'
            have Q2 := Lib.hid hk2
            have Q3 := Lib.hid hp2
            clear hown' hg hb hg2 hk2 hp2 elen ed
            go_wp2
            go_roundw
            case rel => exact ⟨k + 1, a + n, qn, by omega, by omega, by omega, by go_num, by go_num, J4.out, J1.out, Q3.out, Q1.out, Q2.out⟩
            case measure => simp [intOf]; omega
          · have hc4 : ¬ (k : Int) < (cs.length : Int) := by omega
            go_wp2_with (at_builtin; refine parts_elem.list_append rfl (.tmp 45) (.tmp 52) _ rfl rfl (HO.out.alloc _) rfl (src_one Tryd.underlying22 _ _ _ ?c1 _ ?c2 _) ?c3 ?c4 ?c5 ?_)
            case c1 => rfl
            case c2 => rfl
            case c3 => unfold maxLen; omega
            case c4 => omega
            case c5 => first | omega | (simp; omega)
            intro u' w2 hown' hg hb
            rw [← J3.out] at hown'
            have hg2 : wr.grownBy w2 u6.ownBlock := grown_of_alloc hg
            have hk2 : Keeps (fun _ => True) w w2 := HK.out.grown hg2 fun b hb => (HO.out.lt b hb).1
            have hp2 : Parts w2 (fun b => b < w.heap.size) qn := J2.out.keep (Keeps.of_grown hg2 fun b hb _ hlt => by have := (HO.out.lt b hb).1; omega)
            have Q1 := Lib.hid hown'
            have Q2 := Lib.hid hk2
            have Q3 := Lib.hid hp2
            clear hown' hg hb hg2 hk2 hp2 elen ed
            go_wp2
            go_roundw
            case rel => exact ⟨k + 1, a + n, qn, by omega, by omega, by omega, by go_num, by go_num, J4.out, J1.out, Q3.out, Q1.out, Q2.out⟩
            case measure => simp [intOf]; omega
      · obtain rfl : a = m := by omega
        obtain ⟨BB, dd, rfl, -, rowB⟩ := own_slice hown
        rw [← Hl.out, List.take_length] at hqj
        have HJ := Lib.hid hqj
        have HP := Lib.hid hqp
        have HQ := Lib.hid hql.symm
        have HK := Lib.hid hkp
        have HR := Lib.hid (HA.out.keep (hkp.mono fun _ _ _ => trivial))
        have HB2 := Lib.hid rowB
        have HT2 := Lib.hid (HT.out.keep hkp)
        clear hqj hqp hql hkp rowB hown
        go_wp2_with fail
        ((with_reducible refine (sum_at BB k dd (fun b => b < w.heap.size) _ qs _ HQ.out HB2.out HP.out ?c1 HT2.out).mono ?_))
        case c1 => unfold maxLen; omega
        rintro e w' ⟨rfl, rfl⟩
        rw [HJ.out]
        go_wp2_with fail
        ((with_reducible refine (sum_new _ ca l a Hl.out.symm _ _ _ rfl HR.out ?c3 HT2.out).mono ?_))
        case c3 => rw [Hl.out]; unfold maxLen; omega
        rintro e w' ⟨rfl, rfl⟩
        go_wp2
        go_ret
        exact ⟨rfl, (HK.out.alloc _).below⟩

theorem walk (w : World) (A : Option Addr) (ca : Nat) (l : List UInt8) (a1 : l.length ≤ ca) (a2 : ca ≤ maxLen) (a3 : A = none → ca = 0) (a4 : Row w A (fun b => b < w.heap.size) (bcells l))
    (B : Option Addr) (cb : Nat) (cs : List Int) (b1 : cs.length ≤ cb) (b2 : cb ≤ maxLen) (_ : B = none → cb = 0) (b4 : Row w B (fun b => b < w.heap.size) (cs.map (Value.int .i64))) (_ : ∀ n ∈ cs, (Lit.int .i64 n).wf = true) (hT : Taken w) :
    Calls Tryd.prog 6 #[.slice A l.length ca, .slice B cs.length cb] w fun e w' => e = .returned (.bool true) ∧ Below w.heap.size w w' :=
  walk_m w A B ca cb (min l.length 200) l.length (l.take 200) cs rfl (by rw [List.length_take, Nat.min_comm]) a1 a2 a3 (bcells_take a4 200) b1 b2 b4 hT
end Go.Proofs.YtfcbiaedhidibaaDoor.crcCuts
