/-
  'shows' OF LAYER 6 (SlogAll's) ANSWERS true, however the program's log lies on its segments.
-/
import Derived.Test.YtgdbkmecfbkobaaDoorSlogBegun
import Derived.Test.YtgdbkmecfbkobaaDoorAllInvs
import Derived.Deep.QuietTactic
import Derived.BigQuiet
import Derived.IntWalk
namespace Go.Proofs.YtgdbkmecfbkobaaDoor.slogAll
open Go Go.RowKit Go.Joins

/-- The law's own row of records. -/
def HistAt (w : World) (A : Option Addr) (hist : List LRec) : Prop :=
  hist ≠ [] → ∃ b o, A = some ⟨b, o, none⟩ ∧ ∀ j (hj : j < hist.length), w.cell? ⟨b, o + j * 4, none⟩ = some (.int .i64 (hist[j].pos : Int)) ∧ w.cell? ⟨b, o + j * 4 + 1, none⟩ = some (.string (txt hist[j].body)) ∧
    w.cell? ⟨b, o + j * 4 + 2, none⟩ = some (.int .i64 (hist[j].opens : Int)) ∧ w.cell? ⟨b, o + j * 4 + 3, none⟩ = some (.bool false)
theorem HistAt.keep {w w' : World} {A : Option Addr} {hist : List LRec} (h : HistAt w A hist) (hk : Keeps (fun _ => True) w w') : HistAt w' A hist := fun hn => by
  obtain ⟨b, o, e, hc⟩ := h hn
  exact ⟨b, o, e, fun j hj => ⟨hk.cell (hc j hj).1 trivial, hk.cell (hc j hj).2.1 trivial, hk.cell (hc j hj).2.2.1 trivial, hk.cell (hc j hj).2.2.2 trivial⟩⟩
theorem RecsAt.keep {w w' : World} {A : Option Addr} {G : Nat → Prop} {l : List (Nat × List UInt8)} (h : RecsAt w A G l) (hk : Keeps (fun _ => True) w w') : RecsAt w' A G l := fun hn => by
  obtain ⟨b, o, e, hg, hc⟩ := h hn
  refine ⟨b, o, e, hg, fun i hi => ⟨hk.cell (hc i hi).1 trivial, ?_⟩⟩
  obtain ⟨B, c, h1, h2⟩ := (hc i hi).2
  exact ⟨B, c, hk.cell h1 trivial, h2.keep (hk.mono fun _ _ _ => trivial)⟩

theorem cost_any (w : World) (r : LRec) (n : Int) (h1 : r.body.length ≤ 300) (h2 : r.opens ≤ 100) :
    Calls Tryd.prog 29 #[.agg #[.int .i64 n, .string (txt r.body), .int .i64 (r.opens : Int), .bool false]] w fun e w' => e = .returned (.int .i64 (r.cost : Int)) ∧ Keeps (fun _ => True) w w' := by
  have hs := txt_size r.body
  have H := Lib.hid (show (r.cost : Int) = ((txt r.body).size : Int) + 60 + 400 * (r.opens : Int) by rw [hs]; unfold LRec.cost; omega)
  have hb : ((txt r.body).size : Int) ≤ 300 := by rw [hs]; omega
  clear hs
  generalize txt r.body = x at *
  generalize r.opens = o at *
  have HK := Lib.hid ((Keeps.refl (fun _ => True) w).alloc (.cells #[.int .i64 n, .string x, .int .i64 (o : Int), .bool false] 39))
  go_enter Tryd.func29, Tryd.ntmps29
  go_wp2_with fail
  go_ret
  exact ⟨by rw [H.out]; rfl, HK.out⟩

/-- What All tells: the records from 'gone' on. -/
theorem rec_at {st : LSt} (_hok : st.Ok) (i : Nat) (hi : i < st.recs.length) : ∃ h : st.gone + i < st.hist.length, st.recs[i] = ((st.hist[st.gone + i]'h).pos, (st.hist[st.gone + i]'h).body) := by
  unfold LSt.recs at hi ⊢
  have hl : st.gone + i < st.hist.length := by simp at hi; omega
  refine ⟨hl, ?_⟩
  rw [List.getElem_map, List.getElem_drop]
  rfl
theorem rise_at {l : List LRec} (h : l.Pairwise (·.pos < ·.pos)) {i j : Nat} (hi : i < l.length) (hj : j < l.length) : (l[i].pos < l[j].pos ↔ i < j) := by
  rcases Nat.lt_trichotomy i j with hij | hij | hij
  · exact ⟨fun _ => hij, fun _ => List.pairwise_iff_getElem.1 h i j hi hj hij⟩
  · subst hij; simp
  · have := List.pairwise_iff_getElem.1 h j i hj hi hij
    omega

/-- What stands all along. -/
structure Here (S : SlogOK) (W w : World) (p q : Nat) (F Fs : Foot) (s : SDev) (st : LSt) (A B : Option Addr) (wr : World) : Prop where
  lg : Lg S W wr p q F Fs s st
  hi : HistAt wr A st.hist
  re : RecsAt wr B (fun _ => True) st.recs
  kp : Keeps (fun _ => True) w wr
section
variable {S : SlogOK} {W w wr w' : World} {p q : Nat} {F Fs : Foot} {s : SDev} {st : LSt} {A B : Option Addr}
theorem Here.keep (h : Here S W w p q F Fs s st A B wr) (hk : Keeps (fun _ => True) wr w') : Here S W w p q F Fs s st A B w' := ⟨h.lg.keep hk, h.hi.keep hk, RecsAt.keep h.re hk, h.kp.trans hk⟩
theorem Here.histAt {b o : Nat} (h : Here S W w p q F Fs s st (some ⟨b, o, none⟩) B wr) (j : Nat) (hj : j < st.hist.length) : wr.cell? ⟨b, o + j * 4, none⟩ = some (.int .i64 (st.hist[j].pos : Int)) ∧ wr.cell? ⟨b, o + j * 4 + 1, none⟩ = some (.string (txt st.hist[j].body)) ∧
    wr.cell? ⟨b, o + j * 4 + 2, none⟩ = some (.int .i64 (st.hist[j].opens : Int)) ∧ wr.cell? ⟨b, o + j * 4 + 3, none⟩ = some (.bool false) := by
  obtain ⟨b', o', e, hc⟩ := h.hi (by intro e; rw [e] at hj; simp at hj)
  injection e with e
  injection e with e1 e2
  subst e1 e2
  exact hc j hj
theorem Here.recAt {b o : Nat} (h : Here S W w p q F Fs s st A (some ⟨b, o, none⟩) wr) (i : Nat) (x : Nat) (l : List UInt8) (hi : i < st.recs.length) (hx : st.recs[i] = (x, l)) : wr.cell? ⟨b, o + i * 2, none⟩ = some (.int .i64 (x : Int)) ∧ ∃ C c, wr.cell? ⟨b, o + i * 2 + 1, none⟩ = some (.slice C l.length c) ∧ Row wr C (fun _ => True) (bcells l) := by
  obtain ⟨b', o', e, -, hc⟩ := h.re (by intro e; rw [e] at hi; simp at hi)
  injection e with e
  injection e with e1 e2
  subst e1 e2
  have := hc i hi
  rw [hx] at this
  exact this
end

def VL (q b o m d f x y z : Nat) : Nat → World → Value → Prop
  | 0 => IsV (.slice (some ⟨b, o, none⟩) m d)
  | 1 => IsV (.int .i64 (m : Int))
  | 2 => IsV (.bool false)
  | 3 => IsV (.bool false)
  | 4 => IsV (.pointer (some ⟨q, 0, none⟩))
  | 5 => IsV (.int .i64 (f : Int))
  | 6 => IsV (.slice (some ⟨b, o, none⟩) m d)
  | 7 => IsV (.pointer (some ⟨b, o, none⟩))
  | 8 => IsV (.pointer (some ⟨b, o, none⟩))
  | 9 => IsV (.int .i64 (x : Int))
  | 10 => IsV (.bool true)
  | 11 => IsV (.bool true)
  | 12 => IsV (.pointer (some ⟨q, 0, none⟩))
  | 13 => IsV (.int .i64 (y : Int))
  | 14 => IsV (.slice (some ⟨b, o, none⟩) m d)
  | 15 => IsV (.slice (some ⟨b, o, none⟩) m d)
  | 16 => IsV (.int .i64 (m : Int))
  | 17 => IsV (.int .i64 ((m - 1 : Nat) : Int))
  | 18 => IsV (.pointer (some ⟨b, o + (m - 1) * 2, none⟩))
  | 19 => IsV (.pointer (some ⟨b, o + (m - 1) * 2, none⟩))
  | 20 => IsV (.int .i64 (z : Int))
  | 21 => IsV (.bool true)
  | 22 => IsV (.bool true)
  | 23 => IsV (.bool true)
  | 24 => IsV (.bool true)
  | _ => fun _ _ => True
def GL : Nat → Option Bool
  | 3 => some false
  | 11 => some true
  | _ => none
theorem VL_mono {q b o m d f x y z : Nat} (i : Nat) (w w' : World) (v : Value) (_h : Kp w w') (hv : VL q b o m d f x y z i w v) : VL q b o m d f x y z i w' v := by
  match i, hv with
  | 0, hv => exact hv
  | 1, hv => exact hv
  | 2, hv => exact hv
  | 3, hv => exact hv
  | 4, hv => exact hv
  | 5, hv => exact hv
  | 6, hv => exact hv
  | 7, hv => exact hv
  | 8, hv => exact hv
  | 9, hv => exact hv
  | 10, hv => exact hv
  | 11, hv => exact hv
  | 12, hv => exact hv
  | 13, hv => exact hv
  | 14, hv => exact hv
  | 15, hv => exact hv
  | 16, hv => exact hv
  | 17, hv => exact hv
  | 18, hv => exact hv
  | 19, hv => exact hv
  | 20, hv => exact hv
  | 21, hv => exact hv
  | 22, hv => exact hv
  | 23, hv => exact hv
  | 24, hv => exact hv
  | n + 25, _ => trivial
theorem GL_is {q b o m d f x y z : Nat} (g : Nat) (c : Bool) (h : GL g = some c) (w : World) (v : Value) (hv : VL q b o m d f x y z g w v) : v = .bool c := by
  unfold GL at h
  split at h
  all_goals first | (cases h; exact hv) | cases h

set_option maxRecDepth 100000 in
set_option maxHeartbeats 4000000 in
theorem shows_any (S : SlogOK) (W w : World) (hT : S.T W) (p q : Nat) (F Fs : Foot) (s : SDev) (st : LSt) (hL : Lg S W w p q F Fs s st) (A : Option Addr) (c : Nat) (hA : HistAt w A st.hist) (n g : Nat) (hn : st.hist.length = n) (hn80 : n ≤ 80) (hg : st.segs = g) (hop : ∀ r ∈ st.hist, r.opens ≤ 100) :
    Calls Tryd.prog 14 #[.pointer (some ⟨q, 0, none⟩), .slice A n c, .int .i64 (g : Int), .int .i64 (n : Int)] w fun e w' => e = .returned (.bool true) ∧ Keeps (fun _ => True) w w' := by
  have hok := S.wf hL.lg
  have HT := Lib.hid hT
  have HL := Lib.hid hL
  have HA := Lib.hid hA
  have HOK := Lib.hid hok
  have HN := Lib.hid hn
  have hg2 : 3 ≤ g ∧ g ≤ 200 := by rw [← hg]; exact hok.segs
  have HG := Lib.hid hg
  have HOP := Lib.hid hop
  clear hT hL hA hok hn hg hop
  go_enter Tryd.func14, Tryd.ntmps14
  go_wp2_with fail
  refine (lg_all HT.out HL.out).mono ?_
  rintro e w1 ⟨B, d, rfl, hr, hk1⟩
  have hrl : st.recs.length + st.gone = n := by
    have := HOK.out.gone
    rw [← HN.out]
    unfold LSt.recs
    simp
    omega
  have hre : RecsAt w1 B (fun _ => True) st.recs := fun hne => by
    obtain ⟨b, o, e, -, hc⟩ := hr hne
    exact ⟨b, o, e, trivial, fun i hi => ⟨(hc i hi).1, by obtain ⟨B', c', h1, h2⟩ := (hc i hi).2; exact ⟨B', c', h1, h2.mono fun _ _ _ => trivial⟩⟩⟩
  have HH1 := Lib.hid (show Here S W w p q F Fs s st A B w1 from ⟨HL.out.keep hk1, HA.out.keep hk1, hre, hk1⟩)
  obtain ⟨m, hm⟩ : ∃ m, st.recs.length = m := ⟨_, rfl⟩
  rw [hm] at hrl ⊢
  have HM := Lib.hid hm
  clear hm hr hk1 HL HA hre
  go_wp2_with fail
  go_loopw [10, 11] (fun vk vi wr => ∃ k i : Nat, k ≤ st.gone + i ∧ i ≤ m ∧ vk = .int .i64 k ∧ vi = .int .i64 i ∧ Here S W w p q F Fs s st A B wr) (fun _ i _ => m - (intOf i).toNat)
  case atStart => exact ⟨0, 0, Nat.zero_le _, Nat.zero_le _, rfl, rfl, HH1.out⟩
  case round =>
    clear HH1
    obtain ⟨k, i, hki, him, rfl, rfl, hH⟩ := hrel
    have HH := Lib.hid hH
    clear hH
    by_cases hi : i < m
    · have hi' : (i : Int) < (m : Int) := by omega
      have him2 := HM.out
      obtain ⟨hgi, hrec⟩ := rec_at HOK.out i (by omega)
      obtain ⟨b, o, eA, -⟩ := HH.out.hi (by intro e; rw [e] at hgi; simp at hgi)
      obtain ⟨b2, o2, eB, -, -⟩ := HH.out.re (by intro e; rw [e] at him2; simp at him2; omega)
      subst eA eB
      have hprev : i = 0 ∨ (1 ≤ i ∧ ∃ y : Nat, wr.cell? ⟨b2, o2 + (i - 1) * 2, none⟩ = some (.int .i64 (y : Int)) ∧ y < (st.hist[st.gone + i]'hgi).pos) := by
        by_cases h0 : i = 0
        · exact .inl h0
        · right
          obtain ⟨hgj, hrecj⟩ := rec_at HOK.out (i - 1) (by omega)
          exact ⟨by omega, _, (HH.out.recAt (i - 1) _ _ (by omega) hrecj).1, (rise_at HOK.out.rise hgj hgi).2 (by omega)⟩
      have HRE := Lib.hid (fun wz (h : Here S W w p q F Fs s st (some ⟨b, o, none⟩) (some ⟨b2, o2, none⟩) wz) => h.recAt i _ _ (by omega) hrec)
      have HHI := Lib.hid (fun wz (h : Here S W w p q F Fs s st (some ⟨b, o, none⟩) (some ⟨b2, o2, none⟩) wz) => h.histAt (st.gone + i) hgi)
      have HPOS := Lib.hid (fun wz (h : Here S W w p q F Fs s st (some ⟨b, o, none⟩) (some ⟨b2, o2, none⟩) wz) j (hj : j < st.gone + i) => (⟨_, (h.histAt j (by omega)).1, (rise_at HOK.out.rise (by omega) hgi).2 hj⟩ : ∃ y : Nat, wz.cell? ⟨b, o + j * 4, none⟩ = some (.int .i64 (y : Int)) ∧ y < (st.hist[st.gone + i]'hgi).pos))
      have HPREV := Lib.hid hprev
      have HIN := Lib.hid (show ((st.hist[st.gone + i]'hgi).pos, (st.hist[st.gone + i]'hgi).body) ∈ st.recs by rw [← hrec]; exact List.getElem_mem _)
      have hgn : st.gone + i < n := by have := HN.out; omega
      clear hprev hrec him2
      generalize (st.hist[st.gone + i]'hgi).pos = x at *
      generalize (st.hist[st.gone + i]'hgi).body = l at *
      obtain ⟨j, hj⟩ : ∃ j, st.gone + i = j := ⟨_, rfl⟩
      have HJ := Lib.hid hj
      simp only [hj] at *
      clear hj
      obtain ⟨cB0, -⟩ := HRE.out _ HH.out
      rcases HPREV.out with h0 | ⟨h1, y, hy, hyx⟩
      · have e0 : decide (0 < i) = false := by simp [h0]
        clear h0 HPREV
        go_wp2_with fail
        go_quiet (fail)
        clear e0 cB0
        have HQ := Lib.hid (HH.out.keep ((Keeps.refl (fun _ => True) wr).drewN nq))
        clear HH
        generalize wr.drewN nq = wa at HQ ⊢
        go_wp2_with fail
        go_loopw [10] (fun vk wq => ∃ k : Nat, k ≤ j ∧ vk = .int .i64 k ∧ Here S W w p q F Fs s st (some ⟨b, o, none⟩) (some ⟨b2, o2, none⟩) wq) (fun vk _ => n - (intOf vk).toNat)
        case atStart => exact ⟨k, hki, rfl, HQ.out⟩
        case round =>
          clear HQ hki
          obtain ⟨k, hkj, rfl, hH⟩ := hrel
          have HH := Lib.hid hH
          clear hH
          obtain ⟨cB0, Bi, ci, cB1, hrow⟩ := HRE.out _ HH.out
          have HROW := Lib.hid hrow
          clear hrow
          have tkn : decide (k < n) = true := by simp; omega
          have tkn2 : k < n := by omega
          by_cases hkl : k < j
          · obtain ⟨y, hy, hyx⟩ := HPOS.out _ HH.out k hkl
            have t1 : decide (y < x) = true := by simpa using hyx
            clear hyx
            go_wp2_with fail
            go_quiet (fail)
            clear t1 hy cB0 cB1
            have HQ := Lib.hid (HH.out.keep ((Keeps.refl (fun _ => True) wr).drewN nq))
            clear HH HROW
            generalize wr.drewN nq = wa at HQ ⊢
            go_wp2_with fail
            go_roundw
            case rel => exact ⟨k + 1, by omega, by go_num, HQ.out⟩
            case measure => simp [intOf]; omega
          · obtain rfl : k = j := by omega
            have t1 : decide (x < x) = false := by simp
            obtain ⟨cA0, cA1, -, -⟩ := HHI.out _ HH.out
            go_wp2_with fail
            go_quiet (fail)
            clear t1 cB0 cB1 cA0 cA1 HROW tkn
            have HQ := Lib.hid (HH.out.keep ((Keeps.refl (fun _ => True) wr).drewN nq))
            clear HH
            generalize wr.drewN nq = wa at HQ ⊢
            obtain ⟨cB0, Bi, ci, cB1, hrow⟩ := HRE.out _ HQ.out
            obtain ⟨cA0, cA1, -, -⟩ := HHI.out _ HQ.out
            have hcv : ∀ z, (convert 31 9 (.slice Bi l.length ci)).run Tryd.prog (wa.drewN z) = .ok (.string (txt l)) (wa.drewN z) := fun z => (hrow.keep (((Keeps.refl (fun _ => True) wa).drewN z).mono fun _ _ _ => trivial)).to_string Tryd.underlying31 Tryd.underlying5 Tryd.underlying9 _ _ rfl
            have tkn : ((k : Int) == (n : Int)) = false := by simp; omega
            have tkn2 : ¬ k = n := by omega
            go_wp2_with fail
            go_quiet (fail)
            clear tkn tkn2 cA0 cA1 cB0 cB1 hrow hcv
            have HQ2 := Lib.hid (HQ.out.keep ((Keeps.refl (fun _ => True) wa).drewN nq))
            clear HQ
            generalize wa.drewN nq = wa at HQ2 ⊢
            obtain ⟨cB0, -⟩ := HRE.out _ HQ2.out
            go_wp2_with fail
            refine (lg_read HT.out HQ2.out.lg x l HIN.out (x : Int) rfl).mono ?_
            rintro e w6 ⟨C6, c6, rfl, -, -, hr6, -, hk6⟩
            clear cB0
            have HQ3 := Lib.hid (HQ2.out.keep hk6)
            clear hk6 HQ2
            obtain ⟨-, cA1, -, -⟩ := HHI.out _ HQ3.out
            have hcv : ∀ z, (convert 31 9 (.slice C6 l.length c6)).run Tryd.prog (w6.drewN z) = .ok (.string (txt l)) (w6.drewN z) := fun z => (hr6.keep (((Keeps.refl (fun _ => True) w6).drewN z).mono fun _ _ _ => trivial)).to_string Tryd.underlying31 Tryd.underlying5 Tryd.underlying9 _ _ rfl
            go_wp2_with fail
            go_quiet (fail)
            clear cA1 hcv hr6
            have HQ4 := Lib.hid (HQ3.out.keep ((Keeps.refl (fun _ => True) w6).drewN nq))
            clear HQ3
            generalize w6.drewN nq = wa at HQ4 ⊢
            go_wp2_with fail
            go_roundw
            case rel => exact ⟨k, i + 1, by have := HJ.out; omega, by omega, rfl, by go_num, HQ4.out⟩
            case measure => simp [intOf]; omega
      · clear HPREV
        have e0 : decide (0 < i) = true := by simp; omega
        have i1 : IntKind.i64.wrap ((i : Int) - 1) = (i : Int) - 1 := IntWalk.i64_in _ (by omega)
        have i2 : (0 : Int) ≤ (i : Int) - 1 := by omega
        have i3 : ((i : Int) - 1).toNat = i - 1 := by omega
        have i4 : (i : Int) - 1 < (m : Int) := by omega
        have t1 : decide (x ≤ y) = false := by simp; omega
        go_wp2_with fail
        go_quiet (fail)
        clear i1 i2 i3 i4 t1 e0 cB0 h1 hy hyx
        have HQ := Lib.hid (HH.out.keep ((Keeps.refl (fun _ => True) wr).drewN nq))
        clear HH
        generalize wr.drewN nq = wa at HQ ⊢
        go_wp2_with fail
        go_loopw [10] (fun vk wq => ∃ k : Nat, k ≤ j ∧ vk = .int .i64 k ∧ Here S W w p q F Fs s st (some ⟨b, o, none⟩) (some ⟨b2, o2, none⟩) wq) (fun vk _ => n - (intOf vk).toNat)
        case atStart => exact ⟨k, hki, rfl, HQ.out⟩
        case round =>
          clear HQ hki
          obtain ⟨k, hkj, rfl, hH⟩ := hrel
          have HH := Lib.hid hH
          clear hH
          obtain ⟨cB0, Bi, ci, cB1, hrow⟩ := HRE.out _ HH.out
          have HROW := Lib.hid hrow
          clear hrow
          have tkn : decide (k < n) = true := by simp; omega
          have tkn2 : k < n := by omega
          by_cases hkl : k < j
          · obtain ⟨y, hy, hyx⟩ := HPOS.out _ HH.out k hkl
            have t1 : decide (y < x) = true := by simpa using hyx
            clear hyx
            go_wp2_with fail
            go_quiet (fail)
            clear t1 hy cB0 cB1
            have HQ := Lib.hid (HH.out.keep ((Keeps.refl (fun _ => True) wr).drewN nq))
            clear HH HROW
            generalize wr.drewN nq = wa at HQ ⊢
            go_wp2_with fail
            go_roundw
            case rel => exact ⟨k + 1, by omega, by go_num, HQ.out⟩
            case measure => simp [intOf]; omega
          · obtain rfl : k = j := by omega
            have t1 : decide (x < x) = false := by simp
            obtain ⟨cA0, cA1, -, -⟩ := HHI.out _ HH.out
            go_wp2_with fail
            go_quiet (fail)
            clear t1 cB0 cB1 cA0 cA1 HROW tkn
            have HQ := Lib.hid (HH.out.keep ((Keeps.refl (fun _ => True) wr).drewN nq))
            clear HH
            generalize wr.drewN nq = wa at HQ ⊢
            obtain ⟨cB0, Bi, ci, cB1, hrow⟩ := HRE.out _ HQ.out
            obtain ⟨cA0, cA1, -, -⟩ := HHI.out _ HQ.out
            have hcv : ∀ z, (convert 31 9 (.slice Bi l.length ci)).run Tryd.prog (wa.drewN z) = .ok (.string (txt l)) (wa.drewN z) := fun z => (hrow.keep (((Keeps.refl (fun _ => True) wa).drewN z).mono fun _ _ _ => trivial)).to_string Tryd.underlying31 Tryd.underlying5 Tryd.underlying9 _ _ rfl
            have tkn : ((k : Int) == (n : Int)) = false := by simp; omega
            have tkn2 : ¬ k = n := by omega
            go_wp2_with fail
            go_quiet (fail)
            clear tkn tkn2 cA0 cA1 cB0 cB1 hrow hcv
            have HQ2 := Lib.hid (HQ.out.keep ((Keeps.refl (fun _ => True) wa).drewN nq))
            clear HQ
            generalize wa.drewN nq = wa at HQ2 ⊢
            obtain ⟨cB0, -⟩ := HRE.out _ HQ2.out
            go_wp2_with fail
            refine (lg_read HT.out HQ2.out.lg x l HIN.out (x : Int) rfl).mono ?_
            rintro e w6 ⟨C6, c6, rfl, -, -, hr6, -, hk6⟩
            clear cB0
            have HQ3 := Lib.hid (HQ2.out.keep hk6)
            clear hk6 HQ2
            obtain ⟨-, cA1, -, -⟩ := HHI.out _ HQ3.out
            have hcv : ∀ z, (convert 31 9 (.slice C6 l.length c6)).run Tryd.prog (w6.drewN z) = .ok (.string (txt l)) (w6.drewN z) := fun z => (hr6.keep (((Keeps.refl (fun _ => True) w6).drewN z).mono fun _ _ _ => trivial)).to_string Tryd.underlying31 Tryd.underlying5 Tryd.underlying9 _ _ rfl
            go_wp2_with fail
            go_quiet (fail)
            clear cA1 hcv hr6
            have HQ4 := Lib.hid (HQ3.out.keep ((Keeps.refl (fun _ => True) w6).drewN nq))
            clear HQ3
            generalize w6.drewN nq = wa at HQ4 ⊢
            go_wp2_with fail
            go_roundw
            case rel => exact ⟨k, i + 1, by have := HJ.out; omega, by omega, rfl, by go_num, HQ4.out⟩
            case measure => simp [intOf]; omega
    · obtain rfl : m = i := by omega
      have hi' : ¬ (m : Int) < (m : Int) := by omega
      have HQ := Lib.hid HH.out
      clear HH hki him
      go_wp2_with fail
      go_loopw [14, 15] (fun vs vi wr => ∃ t : Nat, t ≤ n ∧ vs = .int .i64 ((costs (st.hist.drop t) : Nat) : Int) ∧ vi = .int .i64 ((t : Int) - 1) ∧ costs (st.hist.drop t) ≤ 200 * (g - 2) ∧ Here S W w p q F Fs s st A B wr) (fun _ i _ => (intOf i + 1).toNat)
      case atStart =>
        have e0 : costs (st.hist.drop n) = 0 := by rw [← HN.out, List.drop_length]; rfl
        exact ⟨n, Nat.le_refl _, by rw [e0]; rfl, rfl, by rw [e0]; exact Nat.zero_le _, HQ.out⟩
      case round =>
        clear HQ
        obtain ⟨t, htn, rfl, rfl, hct, hH⟩ := hrel
        have HH := Lib.hid hH
        clear hH
        rcases Nat.eq_zero_or_pos t with ht0 | ht0
        · have et : (t : Int) - 1 = -1 := by omega
          rw [et]
          clear et ht0
          go_wp2_with fail
          rcases Nat.eq_zero_or_pos m with hm0 | hm0
          · have e0 : ((m : Int) == 0) = true := by simp; omega
            clear hm0
            go_quiet (fail)
            have HE := Lib.hid (HH.out.kp.trans ((Keeps.refl (fun _ => True) wr).drewN nq))
            go_wp2_with fail
            go_ret
            exact ⟨rfl, HE.out⟩
          · have hml := HM.out
            obtain ⟨b, o, eB, -, -⟩ := HH.out.re (by intro e; rw [e] at hml; simp at hml; omega)
            subst eB
            obtain ⟨h1, r1⟩ := rec_at HOK.out 0 (by omega)
            obtain ⟨h2, r2⟩ := rec_at HOK.out (m - 1) (by omega)
            have HX := Lib.hid (fun wz (h : Here S W w p q F Fs s st A (some ⟨b, o, none⟩) wz) => (show wz.cell? ⟨b, o, none⟩ = _ by simpa using (h.recAt 0 _ _ (by omega) r1).1))
            have HZ := Lib.hid (fun wz (h : Here S W w p q F Fs s st A (some ⟨b, o, none⟩) wz) => (h.recAt (m - 1) _ _ (by omega) r2).1)
            have q1 := HOK.out.first (st.hist[st.gone + 0]'h1) (List.mem_drop_iff_getElem.2 ⟨0, by simpa [Nat.add_comm] using h1, rfl⟩)
            have q2 := HOK.out.next.2 (st.hist[st.gone + (m - 1)]'h2) (List.getElem_mem h2)
            obtain ⟨f, hf⟩ : ∃ f, st.first = f := ⟨_, rfl⟩
            obtain ⟨y, hy⟩ : ∃ y, st.next = y := ⟨_, rfl⟩
            rw [hf] at q1
            rw [hy] at q2
            have HF := Lib.hid hf
            have HY := Lib.hid hy
            generalize (st.hist[st.gone + 0]'h1).pos = x at HX q1
            generalize (st.hist[st.gone + (m - 1)]'h2).pos = z at HZ q2
            have t1 : decide (f ≤ x) = true := by simpa using q1
            have t2 : decide (z < y) = true := by simpa using q2
            have hne : ((m : Int) == 0) = false := by simp; omega
            clear hml r1 r2 q1 q2 hf hy h1 h2
            refine wp_region_guard (R := Kp) (V := VL q b o m d f x y z) (w0 := wr) GL (by kernel_rfl) (fun w => Keeps.refl _ w) (fun _ _ _ h k => h.trans k) (fun i w w' v h hv => VL_mono i w w' v h hv) (by kernel_rfl) GL_is (fun i o ho hw => (all_wanted (by kernel_rfl) ho hw).elim) ((Keeps.refl _ wr).drew) (each_of ?_) ?_
            · refine ⟨?_, ?_, ?_, ?_, ?_, ?_, ?_, ?_, ?_, ?_, ?_, ?_, ?_, ?_, ?_, ?_, ?_, ?_, ?_, ?_, ?_, ?_, ?_, ?_, ?_, trivial⟩ <;> intro hw a1 w3 L
              · exact kp_move rfl (L.old 9 (by kernel_rfl))
              · have e0 : a1.eval (.tmp 154) = (.slice (some ⟨b, o, none⟩) m d) := L.val 0 154 (by kernel_rfl) (by kernel_rfl)
                refine kp_yield (v := (.int .i64 (m : Int))) (w' := w3) ?_ (Keeps.refl _ _) rfl
                clear L
                generalize a1.eval = ρ at e0 ⊢
                unfold execOp
                go_simp
              · have e0 : a1.eval (.tmp 155) = (.int .i64 (m : Int)) := L.val 1 155 (by kernel_rfl) (by kernel_rfl)
                have e1 : a1.eval (.const (.int .i64 0)) = .int .i64 0 := rfl
                refine kp_yield (v := (.bool false)) (w' := w3) ?_ (Keeps.refl _ _) rfl
                clear L
                generalize a1.eval = ρ at e0 e1 ⊢
                unfold execOp
                go_simp
              · exact kp_move rfl (L.val 2 156 (by kernel_rfl) (by kernel_rfl))
              · exact kp_move rfl (L.old 0 (by kernel_rfl))
              · have e0 : a1.eval (.tmp 158) = .pointer (some ⟨q, 0, none⟩) := L.val 4 158 (by kernel_rfl) (by kernel_rfl)
                have hf : a1.eval (.func 17) = .func (.func 17) #[] #[] := rfl
                refine kp_enter (f := 17) (args := #[.pointer (some ⟨q, 0, none⟩)]) ?_ (lg_first HT.out (HH.out.keep L.rel).lg) ?_
                · clear L
                  generalize a1.eval = ρ at e0 hf ⊢
                  unfold execOp
                  go_simp
                · rintro e w' ⟨rfl, hk⟩
                  exact ⟨_, rfl, hk, by rw [HF.out]; rfl⟩
              · exact kp_move rfl (L.old 9 (by kernel_rfl))
              · have e0 : a1.eval (.tmp 160) = (.slice (some ⟨b, o, none⟩) m d) := L.val 6 160 (by kernel_rfl) (by kernel_rfl)
                have e1 : a1.eval (.const (.int .i64 0)) = .int .i64 0 := rfl
                refine kp_yield (v := (.pointer (some ⟨b, o, none⟩))) (w' := w3) ?_ (Keeps.refl _ _) rfl
                clear L
                generalize a1.eval = ρ at e0 e1 ⊢
                unfold execOp
                go_simp
              · have e0 : a1.eval (.tmp 161) = (.pointer (some ⟨b, o, none⟩)) := L.val 7 161 (by kernel_rfl) (by kernel_rfl)
                refine kp_yield (v := (.pointer (some ⟨b, o, none⟩))) (w' := w3) ?_ (Keeps.refl _ _) rfl
                clear L
                generalize a1.eval = ρ at e0 ⊢
                unfold execOp
                go_simp
              · have e0 : a1.eval (.tmp 162) = (.pointer (some ⟨b, o, none⟩)) := L.val 8 162 (by kernel_rfl) (by kernel_rfl)
                have hc := (HX.out w3 (HH.out.keep L.rel))
                refine kp_yield (v := (.int .i64 (x : Int))) (w' := w3) ?_ (Keeps.refl _ _) rfl
                clear L
                generalize a1.eval = ρ at e0 ⊢
                unfold execOp
                go_simp
              · have e0 : a1.eval (.tmp 159) = (.int .i64 (f : Int)) := L.val 5 159 (by kernel_rfl) (by kernel_rfl)
                have e1 : a1.eval (.tmp 163) = (.int .i64 (x : Int)) := L.val 9 163 (by kernel_rfl) (by kernel_rfl)
                refine kp_yield (v := (.bool true)) (w' := w3) ?_ (Keeps.refl _ _) rfl
                clear L
                generalize a1.eval = ρ at e0 e1 ⊢
                unfold execOp
                go_simp
              · exact kp_move rfl (L.val 10 164 (by kernel_rfl) (by kernel_rfl))
              · exact kp_move rfl (L.old 0 (by kernel_rfl))
              · have e0 : a1.eval (.tmp 166) = .pointer (some ⟨q, 0, none⟩) := L.val 12 166 (by kernel_rfl) (by kernel_rfl)
                have hf : a1.eval (.func 18) = .func (.func 18) #[] #[] := rfl
                refine kp_enter (f := 18) (args := #[.pointer (some ⟨q, 0, none⟩)]) ?_ (lg_next HT.out (HH.out.keep L.rel).lg) ?_
                · clear L
                  generalize a1.eval = ρ at e0 hf ⊢
                  unfold execOp
                  go_simp
                · rintro e w' ⟨rfl, hk⟩
                  exact ⟨_, rfl, hk, by rw [HY.out]; rfl⟩
              · exact kp_move rfl (L.old 9 (by kernel_rfl))
              · exact kp_move rfl (L.old 9 (by kernel_rfl))
              · have e0 : a1.eval (.tmp 169) = (.slice (some ⟨b, o, none⟩) m d) := L.val 15 169 (by kernel_rfl) (by kernel_rfl)
                refine kp_yield (v := (.int .i64 (m : Int))) (w' := w3) ?_ (Keeps.refl _ _) rfl
                clear L
                generalize a1.eval = ρ at e0 ⊢
                unfold execOp
                go_simp
              · have e0 : a1.eval (.tmp 170) = (.int .i64 (m : Int)) := L.val 16 170 (by kernel_rfl) (by kernel_rfl)
                have e1 : a1.eval (.const (.int .i64 1)) = .int .i64 1 := rfl
                have hm1 : ((m - 1 : Nat) : Int) = (m : Int) - 1 := by omega
                refine kp_yield (v := (.int .i64 ((m - 1 : Nat) : Int))) (w' := w3) ?_ (Keeps.refl _ _) rfl
                clear L
                generalize a1.eval = ρ at e0 e1 ⊢
                unfold execOp
                go_simp
                exact IntWalk.i64_in _ (by omega)
              · have e0 : a1.eval (.tmp 168) = (.slice (some ⟨b, o, none⟩) m d) := L.val 14 168 (by kernel_rfl) (by kernel_rfl)
                have e1 : a1.eval (.tmp 171) = (.int .i64 ((m - 1 : Nat) : Int)) := L.val 17 171 (by kernel_rfl) (by kernel_rfl)
                have hm1 : m - 1 < m := by omega
                refine kp_yield (v := (.pointer (some ⟨b, o + (m - 1) * 2, none⟩))) (w' := w3) ?_ (Keeps.refl _ _) rfl
                clear L
                generalize a1.eval = ρ at e0 e1 ⊢
                unfold execOp
                go_simp
              · have e0 : a1.eval (.tmp 172) = (.pointer (some ⟨b, o + (m - 1) * 2, none⟩)) := L.val 18 172 (by kernel_rfl) (by kernel_rfl)
                refine kp_yield (v := (.pointer (some ⟨b, o + (m - 1) * 2, none⟩))) (w' := w3) ?_ (Keeps.refl _ _) rfl
                clear L
                generalize a1.eval = ρ at e0 ⊢
                unfold execOp
                go_simp
              · have e0 : a1.eval (.tmp 173) = (.pointer (some ⟨b, o + (m - 1) * 2, none⟩)) := L.val 19 173 (by kernel_rfl) (by kernel_rfl)
                have hc := (HZ.out w3 (HH.out.keep L.rel))
                refine kp_yield (v := (.int .i64 (z : Int))) (w' := w3) ?_ (Keeps.refl _ _) rfl
                clear L
                generalize a1.eval = ρ at e0 ⊢
                unfold execOp
                go_simp
              · have e0 : a1.eval (.tmp 167) = (.int .i64 (y : Int)) := L.val 13 167 (by kernel_rfl) (by kernel_rfl)
                have e1 : a1.eval (.tmp 174) = (.int .i64 (z : Int)) := L.val 20 174 (by kernel_rfl) (by kernel_rfl)
                refine kp_yield (v := (.bool true)) (w' := w3) ?_ (Keeps.refl _ _) rfl
                clear L
                generalize a1.eval = ρ at e0 e1 ⊢
                unfold execOp
                go_simp
              · exact kp_pick rfl (L.val 11 165 (by kernel_rfl) (by kernel_rfl)) (L.val 21 175 (by kernel_rfl) (by kernel_rfl))
              · exact kp_pick rfl (L.val 3 157 (by kernel_rfl) (by kernel_rfl)) (L.val 22 176 (by kernel_rfl) (by kernel_rfl))
              · exact kp_assign rfl (L.val 23 177 (by kernel_rfl) (by kernel_rfl))
            · intro vs w4 hk4 hlen hv
              match vs, hlen with
              | [v0, v1, v2, v3, v4, v5, v6, v7, v8, v9, v10, v11, v12, v13, v14, v15, v16, v17, v18, v19, v20, v21, v22, v23, v24], _ =>
                have e24 : v24 = .bool true := hv 24 8 (by kernel_rfl)
                clear hv
                subst e24
                simp only [putAll, List.map, Act.put, List.setIfInBounds_toArray, List.set_cons_succ, List.set_cons_zero, Exit.then]
                have HE := Lib.hid (HH.out.kp.trans hk4)
                clear hk4
                go_wp2_with fail
                go_ret
                exact ⟨rfl, HE.out⟩
        · obtain ⟨t, rfl⟩ : ∃ u, t = u + 1 := ⟨t - 1, by omega⟩
          have et : ((t + 1 : Nat) : Int) - 1 = (t : Int) := by omega
          rw [et]
          have hth : t < st.hist.length := by have := HN.out; omega
          have hdrop : costs (st.hist.drop t) = (st.hist[t]'hth).cost + costs (st.hist.drop (t + 1)) := by
            rw [List.drop_eq_getElem_cons hth]; rfl
          obtain ⟨ba, oa, eA, -⟩ := HH.out.hi (by intro e; rw [e] at hth; simp at hth)
          subst eA
          have HHI := Lib.hid (fun wz (h : Here S W w p q F Fs s st (some ⟨ba, oa, none⟩) B wz) => h.histAt t hth)
          have hb1 := HOK.out.one (st.hist[t]'hth) (List.getElem_mem hth)
          have hb2 := HOP.out (st.hist[t]'hth) (List.getElem_mem hth)
          have HKEPT := Lib.hid (HOK.out.kept t (by omega))
          have HREC := Lib.hid (show st.gone ≤ t → ((st.hist[t]'hth).pos, (st.hist[t]'hth).body) ∈ st.recs from fun h => by
            unfold LSt.recs
            refine List.mem_map.2 ⟨st.hist[t]'hth, List.mem_drop_iff_getElem.2 ⟨t - st.gone, by omega, ?_⟩, rfl⟩
            congr 1
            omega)
          have hcost : (st.hist[t]'hth).cost ≤ 40360 := by unfold LRec.cost; omega
          rw [HG.out] at HKEPT
          rw [hdrop] at HKEPT
          have hdrop2 := hdrop
          have hbd : costs (st.hist.drop (t + 1)) ≤ 40000 := by omega
          have hco := cost_any wr (st.hist[t]'hth) ((st.hist[t]'hth).pos : Int) hb1.2.2 hb2
          clear et hdrop hb1 hb2
          generalize costs (st.hist.drop (t + 1)) = a at *
          obtain ⟨y, hy⟩ : ∃ y, costs (st.hist.drop t) = y := ⟨_, rfl⟩
          have HDR := Lib.hid hdrop2
          clear hdrop2
          generalize st.hist[t]'hth = r at *
          have HCO := Lib.hid hco
          clear hco hy
          generalize r.cost = cs at *
          generalize r.pos = x at *
          generalize r.body = l at *
          generalize r.opens = z at *
          obtain ⟨cA0, cA1, cA2, cA3⟩ := HHI.out _ HH.out
          go_wp2_with fail
          refine HCO.out.mono ?_
          rintro e w5 ⟨rfl, hk5⟩
          clear cA0 cA1 cA2 cA3 HCO
          have HQ := Lib.hid (HH.out.keep hk5)
          clear hk5 HH
          obtain ⟨cA0, -, -, -⟩ := HHI.out _ HQ.out
          by_cases hbig : 200 * ((g : Int) - 2) < (a : Int) + (cs : Int)
          · go_wp2_with fail
            rcases Nat.eq_zero_or_pos m with hm0 | hm0
            · have e0 : ((m : Int) == 0) = true := by simp; omega
              clear hm0
              go_quiet (fail)
              have HE := Lib.hid (HQ.out.kp.trans ((Keeps.refl (fun _ => True) w5).drewN nq))
              go_wp2_with fail
              go_ret
              exact ⟨rfl, HE.out⟩
            · have hml := HM.out
              obtain ⟨b, o, eB, -, -⟩ := HQ.out.re (by intro e; rw [e] at hml; simp at hml; omega)
              subst eB
              obtain ⟨h1, r1⟩ := rec_at HOK.out 0 (by omega)
              obtain ⟨h2, r2⟩ := rec_at HOK.out (m - 1) (by omega)
              have HX := Lib.hid (fun wz (h : Here S W w p q F Fs s st (some ⟨ba, oa, none⟩) (some ⟨b, o, none⟩) wz) => (show wz.cell? ⟨b, o, none⟩ = _ by simpa using (h.recAt 0 _ _ (by omega) r1).1))
              have HZ := Lib.hid (fun wz (h : Here S W w p q F Fs s st (some ⟨ba, oa, none⟩) (some ⟨b, o, none⟩) wz) => (h.recAt (m - 1) _ _ (by omega) r2).1)
              have q1 := HOK.out.first (st.hist[st.gone + 0]'h1) (List.mem_drop_iff_getElem.2 ⟨0, by simpa [Nat.add_comm] using h1, rfl⟩)
              have q2 := HOK.out.next.2 (st.hist[st.gone + (m - 1)]'h2) (List.getElem_mem h2)
              obtain ⟨f, hf⟩ : ∃ f, st.first = f := ⟨_, rfl⟩
              obtain ⟨y, hy⟩ : ∃ y, st.next = y := ⟨_, rfl⟩
              rw [hf] at q1
              rw [hy] at q2
              have HF := Lib.hid hf
              have HY := Lib.hid hy
              generalize (st.hist[st.gone + 0]'h1).pos = x at HX q1
              generalize (st.hist[st.gone + (m - 1)]'h2).pos = z at HZ q2
              have t1 : decide (f ≤ x) = true := by simpa using q1
              have t2 : decide (z < y) = true := by simpa using q2
              have hne : ((m : Int) == 0) = false := by simp; omega
              clear hml r1 r2 q1 q2 hf hy h1 h2
              refine wp_region_guard (R := Kp) (V := VL q b o m d f x y z) (w0 := w5) GL (by kernel_rfl) (fun w => Keeps.refl _ w) (fun _ _ _ h k => h.trans k) (fun i w w' v h hv => VL_mono i w w' v h hv) (by kernel_rfl) GL_is (fun i o ho hw => (all_wanted (by kernel_rfl) ho hw).elim) ((Keeps.refl _ w5).drew) (each_of ?_) ?_
              · refine ⟨?_, ?_, ?_, ?_, ?_, ?_, ?_, ?_, ?_, ?_, ?_, ?_, ?_, ?_, ?_, ?_, ?_, ?_, ?_, ?_, ?_, ?_, ?_, ?_, ?_, trivial⟩ <;> intro hw a1 w3 L
                · exact kp_move rfl (L.old 9 (by kernel_rfl))
                · have e0 : a1.eval (.tmp 154) = (.slice (some ⟨b, o, none⟩) m d) := L.val 0 154 (by kernel_rfl) (by kernel_rfl)
                  refine kp_yield (v := (.int .i64 (m : Int))) (w' := w3) ?_ (Keeps.refl _ _) rfl
                  clear L
                  generalize a1.eval = ρ at e0 ⊢
                  unfold execOp
                  go_simp
                · have e0 : a1.eval (.tmp 155) = (.int .i64 (m : Int)) := L.val 1 155 (by kernel_rfl) (by kernel_rfl)
                  have e1 : a1.eval (.const (.int .i64 0)) = .int .i64 0 := rfl
                  refine kp_yield (v := (.bool false)) (w' := w3) ?_ (Keeps.refl _ _) rfl
                  clear L
                  generalize a1.eval = ρ at e0 e1 ⊢
                  unfold execOp
                  go_simp
                · exact kp_move rfl (L.val 2 156 (by kernel_rfl) (by kernel_rfl))
                · exact kp_move rfl (L.old 0 (by kernel_rfl))
                · have e0 : a1.eval (.tmp 158) = .pointer (some ⟨q, 0, none⟩) := L.val 4 158 (by kernel_rfl) (by kernel_rfl)
                  have hf : a1.eval (.func 17) = .func (.func 17) #[] #[] := rfl
                  refine kp_enter (f := 17) (args := #[.pointer (some ⟨q, 0, none⟩)]) ?_ (lg_first HT.out (HQ.out.keep L.rel).lg) ?_
                  · clear L
                    generalize a1.eval = ρ at e0 hf ⊢
                    unfold execOp
                    go_simp
                  · rintro e w' ⟨rfl, hk⟩
                    exact ⟨_, rfl, hk, by rw [HF.out]; rfl⟩
                · exact kp_move rfl (L.old 9 (by kernel_rfl))
                · have e0 : a1.eval (.tmp 160) = (.slice (some ⟨b, o, none⟩) m d) := L.val 6 160 (by kernel_rfl) (by kernel_rfl)
                  have e1 : a1.eval (.const (.int .i64 0)) = .int .i64 0 := rfl
                  refine kp_yield (v := (.pointer (some ⟨b, o, none⟩))) (w' := w3) ?_ (Keeps.refl _ _) rfl
                  clear L
                  generalize a1.eval = ρ at e0 e1 ⊢
                  unfold execOp
                  go_simp
                · have e0 : a1.eval (.tmp 161) = (.pointer (some ⟨b, o, none⟩)) := L.val 7 161 (by kernel_rfl) (by kernel_rfl)
                  refine kp_yield (v := (.pointer (some ⟨b, o, none⟩))) (w' := w3) ?_ (Keeps.refl _ _) rfl
                  clear L
                  generalize a1.eval = ρ at e0 ⊢
                  unfold execOp
                  go_simp
                · have e0 : a1.eval (.tmp 162) = (.pointer (some ⟨b, o, none⟩)) := L.val 8 162 (by kernel_rfl) (by kernel_rfl)
                  have hc := (HX.out w3 (HQ.out.keep L.rel))
                  refine kp_yield (v := (.int .i64 (x : Int))) (w' := w3) ?_ (Keeps.refl _ _) rfl
                  clear L
                  generalize a1.eval = ρ at e0 ⊢
                  unfold execOp
                  go_simp
                · have e0 : a1.eval (.tmp 159) = (.int .i64 (f : Int)) := L.val 5 159 (by kernel_rfl) (by kernel_rfl)
                  have e1 : a1.eval (.tmp 163) = (.int .i64 (x : Int)) := L.val 9 163 (by kernel_rfl) (by kernel_rfl)
                  refine kp_yield (v := (.bool true)) (w' := w3) ?_ (Keeps.refl _ _) rfl
                  clear L
                  generalize a1.eval = ρ at e0 e1 ⊢
                  unfold execOp
                  go_simp
                · exact kp_move rfl (L.val 10 164 (by kernel_rfl) (by kernel_rfl))
                · exact kp_move rfl (L.old 0 (by kernel_rfl))
                · have e0 : a1.eval (.tmp 166) = .pointer (some ⟨q, 0, none⟩) := L.val 12 166 (by kernel_rfl) (by kernel_rfl)
                  have hf : a1.eval (.func 18) = .func (.func 18) #[] #[] := rfl
                  refine kp_enter (f := 18) (args := #[.pointer (some ⟨q, 0, none⟩)]) ?_ (lg_next HT.out (HQ.out.keep L.rel).lg) ?_
                  · clear L
                    generalize a1.eval = ρ at e0 hf ⊢
                    unfold execOp
                    go_simp
                  · rintro e w' ⟨rfl, hk⟩
                    exact ⟨_, rfl, hk, by rw [HY.out]; rfl⟩
                · exact kp_move rfl (L.old 9 (by kernel_rfl))
                · exact kp_move rfl (L.old 9 (by kernel_rfl))
                · have e0 : a1.eval (.tmp 169) = (.slice (some ⟨b, o, none⟩) m d) := L.val 15 169 (by kernel_rfl) (by kernel_rfl)
                  refine kp_yield (v := (.int .i64 (m : Int))) (w' := w3) ?_ (Keeps.refl _ _) rfl
                  clear L
                  generalize a1.eval = ρ at e0 ⊢
                  unfold execOp
                  go_simp
                · have e0 : a1.eval (.tmp 170) = (.int .i64 (m : Int)) := L.val 16 170 (by kernel_rfl) (by kernel_rfl)
                  have e1 : a1.eval (.const (.int .i64 1)) = .int .i64 1 := rfl
                  have hm1 : ((m - 1 : Nat) : Int) = (m : Int) - 1 := by omega
                  refine kp_yield (v := (.int .i64 ((m - 1 : Nat) : Int))) (w' := w3) ?_ (Keeps.refl _ _) rfl
                  clear L
                  generalize a1.eval = ρ at e0 e1 ⊢
                  unfold execOp
                  go_simp
                  exact IntWalk.i64_in _ (by omega)
                · have e0 : a1.eval (.tmp 168) = (.slice (some ⟨b, o, none⟩) m d) := L.val 14 168 (by kernel_rfl) (by kernel_rfl)
                  have e1 : a1.eval (.tmp 171) = (.int .i64 ((m - 1 : Nat) : Int)) := L.val 17 171 (by kernel_rfl) (by kernel_rfl)
                  have hm1 : m - 1 < m := by omega
                  refine kp_yield (v := (.pointer (some ⟨b, o + (m - 1) * 2, none⟩))) (w' := w3) ?_ (Keeps.refl _ _) rfl
                  clear L
                  generalize a1.eval = ρ at e0 e1 ⊢
                  unfold execOp
                  go_simp
                · have e0 : a1.eval (.tmp 172) = (.pointer (some ⟨b, o + (m - 1) * 2, none⟩)) := L.val 18 172 (by kernel_rfl) (by kernel_rfl)
                  refine kp_yield (v := (.pointer (some ⟨b, o + (m - 1) * 2, none⟩))) (w' := w3) ?_ (Keeps.refl _ _) rfl
                  clear L
                  generalize a1.eval = ρ at e0 ⊢
                  unfold execOp
                  go_simp
                · have e0 : a1.eval (.tmp 173) = (.pointer (some ⟨b, o + (m - 1) * 2, none⟩)) := L.val 19 173 (by kernel_rfl) (by kernel_rfl)
                  have hc := (HZ.out w3 (HQ.out.keep L.rel))
                  refine kp_yield (v := (.int .i64 (z : Int))) (w' := w3) ?_ (Keeps.refl _ _) rfl
                  clear L
                  generalize a1.eval = ρ at e0 ⊢
                  unfold execOp
                  go_simp
                · have e0 : a1.eval (.tmp 167) = (.int .i64 (y : Int)) := L.val 13 167 (by kernel_rfl) (by kernel_rfl)
                  have e1 : a1.eval (.tmp 174) = (.int .i64 (z : Int)) := L.val 20 174 (by kernel_rfl) (by kernel_rfl)
                  refine kp_yield (v := (.bool true)) (w' := w3) ?_ (Keeps.refl _ _) rfl
                  clear L
                  generalize a1.eval = ρ at e0 e1 ⊢
                  unfold execOp
                  go_simp
                · exact kp_pick rfl (L.val 11 165 (by kernel_rfl) (by kernel_rfl)) (L.val 21 175 (by kernel_rfl) (by kernel_rfl))
                · exact kp_pick rfl (L.val 3 157 (by kernel_rfl) (by kernel_rfl)) (L.val 22 176 (by kernel_rfl) (by kernel_rfl))
                · exact kp_assign rfl (L.val 23 177 (by kernel_rfl) (by kernel_rfl))
              · intro vs w4 hk4 hlen hv
                match vs, hlen with
                | [v0, v1, v2, v3, v4, v5, v6, v7, v8, v9, v10, v11, v12, v13, v14, v15, v16, v17, v18, v19, v20, v21, v22, v23, v24], _ =>
                  have e24 : v24 = .bool true := hv 24 8 (by kernel_rfl)
                  clear hv
                  subst e24
                  simp only [putAll, List.map, Act.put, List.setIfInBounds_toArray, List.set_cons_succ, List.set_cons_zero, Exit.then]
                  have HE := Lib.hid (HQ.out.kp.trans hk4)
                  clear hk4
                  go_wp2_with fail
                  go_ret
                  exact ⟨rfl, HE.out⟩
          · have hin := HREC.out (HKEPT.out (by omega))
            have HIN := Lib.hid hin
            have hok2 : cs + a ≤ 200 * (g - 2) := by omega
            clear hin
            go_wp2_with fail
            refine (lg_read HT.out HQ.out.lg x l HIN.out (x : Int) rfl).mono ?_
            rintro e w6 ⟨C6, c6, rfl, -, -, hr6, -, hk6⟩
            clear cA0
            have HQ3 := Lib.hid (HQ.out.keep hk6)
            clear hk6 HQ
            obtain ⟨-, cA1, -, -⟩ := HHI.out _ HQ3.out
            have hcv : ∀ z, (convert 31 9 (.slice C6 l.length c6)).run Tryd.prog (w6.drewN z) = .ok (.string (txt l)) (w6.drewN z) := fun z => (hr6.keep (((Keeps.refl (fun _ => True) w6).drewN z).mono fun _ _ _ => trivial)).to_string Tryd.underlying31 Tryd.underlying5 Tryd.underlying9 _ _ rfl
            go_wp2_with fail
            go_quiet (fail)
            clear cA1 hcv hr6
            have HQ4 := Lib.hid (HQ3.out.keep ((Keeps.refl (fun _ => True) w6).drewN nq))
            clear HQ3
            generalize w6.drewN nq = wa at HQ4 ⊢
            go_wp2_with fail
            go_roundw
            case rel => exact ⟨t, by omega, by rw [HDR.out]; try (congr 1 <;> omega), rfl, by rw [HDR.out]; exact hok2, HQ4.out⟩
            case measure => simp [intOf]

end Go.Proofs.YtgdbkmecfbkobaaDoor.slogAll
