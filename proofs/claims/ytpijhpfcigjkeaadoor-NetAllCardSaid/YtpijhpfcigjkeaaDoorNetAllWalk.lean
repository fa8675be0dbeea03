/-
  NetAll (layer 20), walked.
-/
import Derived.Test.YtpijhpfcigjkeaaDoorNtAll
import Derived.Deep.CutBlock
namespace Go.Proofs.YtpijhpfcigjkeaaDoor
open Go Go.RowKit Go.Joins

/-- An operation: its kind, its number, its messages. -/
structure Op20 where
  kind : Int
  i : Int
  ms : List MP
  A : Option Addr
  c : Nat
def OpNsAt (w : World) (A : Option Addr) (F : Nat → Prop) (l : List Op20) : Prop := ∀ k (h : k < l.length), ∃ b o, A = some ⟨b, o, none⟩ ∧ F b ∧ w.cell? ⟨b, o + k * 3, none⟩ = some (.int .i64 l[k].kind) ∧ w.cell? ⟨b, o + k * 3 + 1, none⟩ = some (.int .i64 l[k].i) ∧
  w.cell? ⟨b, o + k * 3 + 2, none⟩ = some (.slice l[k].A l[k].ms.length l[k].c) ∧ l[k].ms.length ≤ l[k].c ∧ l[k].c ≤ maxLen ∧ Row w l[k].A F (msRow l[k].ms) ∧ (∀ p ∈ l[k].ms, MsIn w p.1 p.2 F ∧ p.1.Came)
theorem OpNsAt.keep {w w' : World} {A : Option Addr} {F : Nat → Prop} {l : List Op20} (h : OpNsAt w A F l) (hk : Keeps F w w') : OpNsAt w' A F l := fun k hl => by
  obtain ⟨b, o, e, hF, c0, c1, c2, h1, h2, h3, h4⟩ := h k hl
  exact ⟨b, o, e, hF, hk.cell c0 hF, hk.cell c1 hF, hk.cell c2 hF, h1, h2, h3.keep hk, fun p hp => ⟨(h4 p hp).1.keep hk, (h4 p hp).2⟩⟩

namespace netAll
/-- The operation's own block. -/
def OB (w : World) (ob : Nat) (kd i : Int) (V : Value) : Prop := w.heap[ob]? = some (.cells #[.int .i64 kd, .int .i64 i, V] 28 (0, 0))
section
variable {w w' : World} {ob : Nat} {kd i : Int} {V : Value} {F : Nat → Prop}
theorem OB.keep (h : OB w ob kd i V) (hk : Keeps F w w') (hF : F ob) : OB w' ob kd i V := (hk.block ob hF (Array.getElem?_eq_some_iff.1 h).1).trans h
theorem OB.lt (h : OB w ob kd i V) : ob < w.heap.size := (Array.getElem?_eq_some_iff.1 h).1
theorem OB.c0 (h : OB w ob kd i V) : w.cell? ⟨ob, 0, none⟩ = some (.int .i64 kd) := (cell_of_block h 0).trans rfl
theorem OB.c1 (h : OB w ob kd i V) : w.cell? ⟨ob, 1, none⟩ = some (.int .i64 i) := (cell_of_block h 1).trans rfl
theorem OB.c2 (h : OB w ob kd i V) : w.cell? ⟨ob, 2, none⟩ = some V := (cell_of_block h 2).trans rfl
end

set_option maxRecDepth 100000 in
set_option maxHeartbeats 4000000 in
theorem walk (S : NetOK) (w : World) (hT : S.T w) (A : Option Addr) (c : Nat) (l : List Op20) (_f3 : l.length ≤ c) (_f4 : c ≤ maxLen) (hL : OpNsAt w A (fun b => b < w.heap.size) l) :
    Calls Tryd.prog 3 #[.slice A l.length c] w fun e w' => e = .returned (.bool true) ∧ Below w.heap.size w w' := by
  have HT := Lib.hid hT
  have HL := Lib.hid hL
  have HFIN := Lib.hid (show ∀ w', Kp w w' → Below w.heap.size w w' from fun w' h => h.below)
  unfold maxLen at _f4
  clear hT hL
  go_enter Tryd.func3, Tryd.ntmps3
  go_wp2_with fail
  refine (show Calls _ _ _ _ _ from begun20 S w HT.out).mono ?_
  rintro e w1 ⟨rfl, hk⟩
  have HK1 := Lib.hid hk
  clear hk
  go_wp2_with fail
  refine (show Calls _ _ _ _ _ from S.new w w1 HT.out HK1.out).mono ?_
  rintro e w2 ⟨q, F, rfl, h, -, -⟩
  have HI := Lib.hid (NI.start h)
  clear h HK1
  go_wp2_with fail
  go_loopw [5, 6] (fun v i wr => ∃ (j n : Nat) (L : List MP) (A5 : Option Addr) (c5 : Nat) (F : Nat → Prop), j ≤ l.length ∧ j ≤ 50 ∧ i = .int .i64 (j : Int) ∧ v = .slice A5 n c5 ∧ n ≤ 4 * j ∧ Hid (n = L.length) ∧ Hid (NI S w wr q (L.map (·.1)) L v [] (.slice none 0 0) F)) (fun _ i _ => 50 - (intOf i).toNat)
  case atStart => exact ⟨0, 0, [], none, 0, F, Nat.zero_le _, by omega, rfl, rfl, Nat.le_refl _, Lib.hid rfl, HI⟩
  case round =>
    clear HI
    obtain ⟨j, n, L, A5, c5, F, hj, hj50, rfl, rfl, hn4, HN, HI⟩ := hrel
    have hcs : (j < l.length ∧ j < 50) ∨ j = l.length ∨ (j < l.length ∧ j = 50) := by omega
    rcases hcs with ⟨hjl, hj5⟩ | hend | ⟨hjl, hj5⟩
    · have p1 : (j : Int) < (l.length : Int) := by omega
      have p2 : (j : Int) < 50 := by omega
      have p3 : decide (j < l.length) = true := decide_eq_true hjl
      have p4 : decide (j < 50) = true := decide_eq_true hj5
      obtain ⟨b, o, rfl, hb, d0, d1, d2, hm1, hm2, hm3, hm4⟩ := HL.out j hjl
      replace d0 := HI.out.kp.cell d0 trivial
      replace d1 := HI.out.kp.cell d1 trivial
      replace d2 := HI.out.kp.cell d2 trivial
      generalize l[j] = op at d0 d1 d2 hm1 hm2 hm3 hm4
      obtain ⟨kd, ix, ms, MA, mc⟩ := op
      simp only at d0 d1 d2 hm1 hm2 hm3 hm4
      have HM := Lib.hid (And.intro hm3 hm4)
      obtain ⟨mn, hmn⟩ : ∃ mn, ms.length = mn := ⟨_, rfl⟩
      have HMN := Lib.hid hmn
      rw [hmn] at d2 hm1
      unfold maxLen at hm2
      have hj1 : j + 1 ≤ l.length := hjl
      have hj2 : j + 1 ≤ 50 := hj5
      clear hm3 hm4 hmn hjl hb
      go_upto_region 10 with fail
      have hb4 := heap_alloc_new wr (.cells #[.int .i64 kd, .int .i64 ix, .slice MA mn mc] 28)
      have hk4 : Kp wr (wr.alloc (.cells #[.int .i64 kd, .int .i64 ix, .slice MA mn mc] 28)) := (Keeps.refl _ wr).alloc _
      generalize wr.alloc (.cells #[.int .i64 kd, .int .i64 ix, .slice MA mn mc] 28) = w4 at hb4 hk4 ⊢
      have HO4 := Lib.hid (show OB w4 wr.heap.size kd ix (.slice MA mn mc) from hb4)
      have HI4 := Lib.hid (HI.out.keep hk4)
      have HS4 := Lib.hid (show Safe F (.slice A5 n c5) (.slice none 0 0) wr.heap.size from ⟨fun hf => by
          have := ((S.atIn HI.out.at_).2 _ hf).2
          omega, fun e => by
          have := (HI.out.row5.lt _ e).2
          omega, fun e => by cases e⟩)
      clear hb4 hk4 HI d0 d1 d2 p1 p2 p3 p4
      generalize wr.heap.size = ob at *
      -- is it there?
      obtain ⟨inn, hin⟩ : ∃ inn : Bool, (decide (0 ≤ ix) && decide (ix < (n : Int))) = inn := ⟨_, rfl⟩
      have HIN := Lib.hid hin
      have e1 := HO4.out.c1
      have hcs : decide (0 ≤ ix) = false ∨ (decide (0 ≤ ix) = true ∧ decide (ix < (n : Int)) = inn) := by
        cases h : decide (0 ≤ ix) with
        | false => exact .inl rfl
        | true => rw [h, Bool.true_and] at hin; exact .inr ⟨rfl, hin⟩
      clear hin
      go_cut [8] from 36 to 45 (fun s8 wx => wx = w4 ∧ s8 = .bool inn)
      case first =>
        rcases hcs with t1 | ⟨t1, t2⟩
        · have hi0 : inn = false := by rw [← HIN.out, t1]; rfl
          have p0 : ¬ 0 ≤ ix := of_decide_eq_false t1
          go_wp2_with fail
          go_meet
          exact ⟨rfl, by rw [hi0]⟩
        · have p0 : 0 ≤ ix := of_decide_eq_true t1
          go_wp2_with fail
          go_meet
          exact ⟨rfl, rfl⟩
      case rest =>
        obtain ⟨rfl, rfl⟩ := hcut
        clear e1 hcs
        have k0 := HO4.out.c0
        go_upto_block 2 with fail
        go_cut [5, 9, 10, 11, 12, 13, 14] from 46 to 165 (fun s5 s9 s10 s11 s12 s13 s14 wx => ∃ (n2 : Nat) (L2 : List MP) (A2 : Option Addr) (c2 : Nat) (F2 : Nat → Prop), s5 = .slice A2 n2 c2 ∧ n2 ≤ 4 * (j + 1) ∧ Hid (n2 = L2.length) ∧ Hid (NI S w wx q (L2.map (·.1)) L2 s5 [] (.slice none 0 0) F2))
        case first =>
          have hkc : (kd == 0) = true ∨ ((kd == 0) = false ∧ (kd == 1) = true) ∨ ((kd == 0) = false ∧ (kd == 1) = false ∧ (kd == 2) = true) ∨ ((kd == 0) = false ∧ (kd == 1) = false ∧ (kd == 2) = false) := by
            cases (kd == 0) <;> cases (kd == 1) <;> cases (kd == 2) <;> simp
          rcases hkc with t0 | ⟨t0, t1⟩ | ⟨t0, t1, t2⟩ | ⟨t0, t1, t2⟩
          · clear HIN
            go_wp2_with fail
            go_loopw [5, 9, 10, 11] (fun v5 v9 vk vj wr => ∃ (t n5 kk : Nat) (L5 M : List MP) (A5 A9 : Option Addr) (c5 c9 : Nat), t ≤ mn ∧ t ≤ 4 ∧ vj = .int .i64 (t : Int) ∧ vk = .int .i64 (kk : Int) ∧ v5 = .slice A5 n5 c5 ∧ v9 = .slice A9 t c9 ∧ n5 ≤ n + t ∧ kk ≤ t ∧ Hid (n5 = L5.length ∧ t = M.length ∧ kk = ((M.map (·.1)).filter mayM).length ∧ L5.map (·.1) = L.map (·.1) ++ (M.map (·.1)).filter mayM) ∧ Hid (NI S w wr q (L.map (·.1)) L5 v5 M v9 F) ∧ Hid (OB wr ob kd ix (.slice MA mn mc)) ∧ Hid (Safe F v5 v9 ob)) (fun _ _ _ i _ => 4 - (intOf i).toNat)
            case atStart => exact ⟨0, n, 0, L, [], A5, none, c5, 0, Nat.zero_le _, by omega, rfl, rfl, rfl, rfl, Nat.le_refl _, Nat.le_refl _, Lib.hid ⟨HN.out, rfl, rfl, by simp⟩, HI4, HO4, HS4⟩
            case round =>
              clear HI4 HO4 HS4 k0
              obtain ⟨t, n5, kk, L5, M, A5, A9, c5, c9, ht, ht4, rfl, rfl, rfl, rfl, hn5, hkk, HE, HI, HO, HS⟩ := hrel
              have k2 := HO.out.c2
              have hcs : (t < mn ∧ t < 4) ∨ t = mn ∨ (t < mn ∧ t = 4) := by omega
              rcases hcs with ⟨htm, ht5⟩ | hend
              · have p1 : (t : Int) < (mn : Int) := by omega
                have p2 : (t : Int) < 4 := by omega
                have p3 : decide (t < mn) = true := decide_eq_true htm
                have p4 : decide (t < 4) = true := decide_eq_true ht5
                have htl : t < ms.length := by rw [HMN.out]; exact htm
                have hrow := HM.out.1.keep (HI.out.kp.mono fun _ _ _ => trivial : Keeps (fun b => b < w.heap.size) w wr)
                obtain ⟨mb, mo, rfl, hmb, hcell⟩ := msRow_cells hrow htl
                obtain ⟨hmi, hmc⟩ := HM.out.2 _ (List.getElem_mem htl)
                have hmi' := hmi.keep (HI.out.kp.mono fun _ _ _ => trivial : Keeps (fun b => b < w.heap.size) w wr)
                generalize ms[t] = om at hcell hmi hmc hmi'
                obtain ⟨m0, a0⟩ := om
                simp only at hcell hmi hmc hmi'
                obtain ⟨v0, hv0⟩ : ∃ v, msV m0 a0 = v := ⟨_, rfl⟩
                have HV0 := Lib.hid hv0
                have HCL := Lib.hid hcell
                have HMI := Lib.hid hmi'
                have HCT := Lib.hid (ms_cut wr m0 a0 hmi'.at_ hmc)
                have HFT := Lib.hid (cutM_fits hmc)
                rw [hv0] at HCT
                clear hrow hcell hmi hmc hmi' hv0 htl
                go_upto_region 23 with (first
                  | (refine list_loadR rfl (.tmp 83) rfl mb (mo + t * 21) (m0, a0) HCL.out rfl v0 HV0.out ?_)
                  | (go_at_call 10; refine (show Calls _ _ _ _ _ from HCT.out).mono ?_; rintro e w6 ⟨a6, rfl, hat, eba, eoa, hit, hmk, hk6⟩)
                  | (refine list_allocM rfl rfl ?_; intro w7 hb7 hk7 hs7)
                  | (refine list_storeM rfl (.tmp 12) (.tmp 85) rfl _ _ (cutM m0) _ a6 hb7 rfl rfl ?_; intro w8 hb8 hk8 hs8))
                have hk68 := kp_made hk7 hk8
                have hx8 := (cut_in HI.out HMI.out hk6 hat eba eoa hit hmk).keep (hk68.mono fun _ _ _ => trivial)
                have HX8 := Lib.hid (hx8.mono (H := Safe F (.slice A5 n5 c5) (.slice A9 t c9)) fun b _ h => h.1)
                have HI8 := Lib.hid (HI.out.keep (hk6.trans hk68))
                have HO8 := Lib.hid (HO.out.keep ((hk6.trans hk68).mono fun _ _ _ => trivial : Keeps (fun _ => True) wr w8) trivial)
                have HG8 := Lib.hid ((HI.out.keep hk6).fresh (b := w6.heap.size) (.inr (Nat.le_refl _)))
                have hml : M.length ≤ 4 := by rw [← HE.out.2.1]; exact ht4
                generalize cutM m0 = xm at hb8 HX8 HFT hat hit hmk
                obtain ⟨vX, hvX⟩ : ∃ v, msV xm a6 = v := ⟨_, rfl⟩
                have HVX := Lib.hid hvX
                have HB8 := Lib.hid hb8
                generalize w6.heap.size = g12 at *
                clear hb7 hk7 hs7 hb8 hk8 hs8 hk68 hx8 hat eba eoa hit hmk hk6 HCT HMI HCL HV0 HI HO hvX k2 p1 p2 p3 p4
                go_upto_region 24 with (first
                  | (refine list_loadM rfl (.tmp 12) rfl g12 xm a6 HB8.out rfl vX HVX.out ?_)
                  | (refine list_slice1 rfl (.tmp 87) rfl xm a6 HVX.out.symm ?_; intro w9 hb9 hk9 hs9)
                  | (at_builtin; refine msg_elem.list_append_le rfl (.tmp 86) (.tmp 88) _ rfl rfl (HI8.out.row9.keep hk9 fun _ _ => trivial) rfl (msRow_src (c := 1) hb9.row) (by unfold maxLen; show M.length + 1 ≤ _; omega) (by show (M.length + 1) * 256 ≤ _; omega) (Nat.le_trans HI8.out.kp.size hk9.size) ?_; intro v10 w10 ho10 hg10 hb10))
                have hi9 := HI8.out.keep hk9
                obtain ⟨hi10, hgo⟩ := hi9.app9 (x := (xm, a6)) (by rw [msRow_append]; exact ho10) hg10 hb10 (HX8.out.keep (hk9.mono fun _ _ _ => trivial)) HFT.out
                have ho10' : OwnLe w10 w.heap.size 36 21 v10 (t + 1) (msRow (M ++ [(xm, a6)])) := by rw [HE.out.2.1, msRow_append]; exact ho10
                obtain ⟨A10, c10, rfl, -, -, -⟩ := ho10'.form
                have hlt8 := HB8.out.lt
                have HI10 := Lib.hid hi10
                have HB10 := Lib.hid ((HB8.out.kp hk9).keep hgo.keep HG8.out)
                have HO10 := Lib.hid ((HO8.out.keep (hk9.mono fun _ _ _ => trivial : Keeps (fun _ => True) w8 w9) trivial).keep hgo.keep HS.out)
                have HS10 := Lib.hid (hgo.safe ob (Nat.lt_of_lt_of_le HO8.out.lt hk9.size) HS.out)
                have HG10 := Lib.hid (hgo.safe g12 (Nat.lt_of_lt_of_le hlt8 hk9.size) HG8.out)
                have hx9 := HX8.out.keep (hk9.mono fun _ _ _ => trivial : Keeps (Safe F (.slice A5 n5 c5) (.slice A9 t c9)) w8 w9)
                have HX10 := Lib.hid (((hx9.mono (H := fun b => b < w9.heap.size ∧ Safe F (.slice A5 n5 c5) (.slice A9 t c9) b) fun b hl hs => ⟨hl, hs⟩).keep (hgo.keep.mono fun b _ hs => hs.2)).mono (H := Safe F (.slice A5 n5 c5) (.slice A10 (t + 1) c10)) fun b _ hs => hgo.safe b hs.1 hs.2)
                have HMS := Lib.hid (rmsg w10 xm a6 HX10.out.at_ HFT.out)
                rw [HVX.out] at HMS
                have hn5l : n5 ≤ 300 := by omega
                clear hi9 hi10 hgo ho10 ho10' hg10 hb10 hk9 hs9 hb9 hlt8 HI8 HB8 HO8 HS HG8 HX8 hx9
                go_wp2_with (refine list_loadM rfl (.tmp 12) rfl g12 xm a6 HB10.out rfl vX HVX.out ?_)
                refine (show Calls _ _ _ _ _ from HMS.out).mono ?_
                rintro e w11 ⟨rfl, hk11⟩
                have HI11 := Lib.hid (HI10.out.keep hk11)
                have HB11 := Lib.hid (HB10.out.kp hk11)
                have HO11 := Lib.hid (HO10.out.keep (hk11.mono fun _ _ _ => trivial : Keeps (fun _ => True) w10 w11) trivial)
                have HX11 := Lib.hid (HX10.out.keep (hk11.mono fun _ _ _ => trivial))
                clear hk11 HMS HI10 HB10 HO10 HX10
                have htm1 : t + 1 ≤ mn := htm
                have ht51 : t + 1 ≤ 4 := ht5
                cases hmay : mayM xm with
                | false =>
                  have HE2 := Lib.hid (show n5 = L5.length ∧ t + 1 = (M ++ [(xm, a6)]).length ∧ kk = (((M ++ [(xm, a6)]).map (·.1)).filter mayM).length ∧ L5.map (·.1) = L.map (·.1) ++ ((M ++ [(xm, a6)]).map (·.1)).filter mayM from by
                    obtain ⟨h1, h2, h3, h4⟩ := HE.out
                    have e : ((M ++ [(xm, a6)]).map (·.1)).filter mayM = (M.map (·.1)).filter mayM := by
                      rw [List.map_append, List.filter_append]; simp [hmay]
                    rw [e]
                    exact ⟨h1, by rw [List.length_append, ← h2]; rfl, h3, h4⟩)
                  clear HE hmay
                  go_wp2_with fail
                  go_roundw
                  case rel => exact ⟨t + 1, n5, kk, L5, M ++ [(xm, a6)], A5, A10, c5, c10, htm1, ht51, by go_num, rfl, rfl, rfl, by omega, by omega, HE2, HI11, HO11, HS10⟩
                  case measure => simp [intOf]; omega
                | true =>
                  have HE2 := Lib.hid (show n5 + 1 = (L5 ++ [(xm, a6)]).length ∧ t + 1 = (M ++ [(xm, a6)]).length ∧ kk + 1 = (((M ++ [(xm, a6)]).map (·.1)).filter mayM).length ∧ (L5 ++ [(xm, a6)]).map (·.1) = L.map (·.1) ++ ((M ++ [(xm, a6)]).map (·.1)).filter mayM from by
                    obtain ⟨h1, h2, h3, h4⟩ := HE.out
                    have e : ((M ++ [(xm, a6)]).map (·.1)).filter mayM = (M.map (·.1)).filter mayM ++ [xm] := by
                      rw [List.map_append, List.filter_append]; simp [hmay]
                    rw [e]
                    exact ⟨by rw [List.length_append, ← h1]; rfl, by rw [List.length_append, ← h2]; rfl, by rw [List.length_append, ← h3]; rfl, by rw [List.map_append, h4, List.append_assoc]; rfl⟩)
                  have hl5 : L5.length ≤ 300 := by rw [← HE.out.1]; exact hn5l
                  clear hmay
                  go_upto_region 26 with (first
                    | (refine list_loadM rfl (.tmp 12) rfl g12 xm a6 HB11.out rfl vX HVX.out ?_)
                    | (refine list_slice1 rfl (.tmp 93) rfl xm a6 HVX.out.symm ?_; intro w12 hb12 hk12 hs12)
                    | (at_builtin; refine msg_elem.list_append_le rfl (.tmp 92) (.tmp 94) _ rfl rfl (HI11.out.row5.keep hk12 fun _ _ => trivial) rfl (msRow_src (c := 1) hb12.row) (by unfold maxLen; show L5.length + 1 ≤ _; omega) (by show (L5.length + 1) * 256 ≤ _; omega) (Nat.le_trans HI11.out.kp.size hk12.size) ?_; intro v13 w13 ho13 hg13 hb13))
                  obtain ⟨hi13, hgo⟩ := (HI11.out.keep hk12).app5 (x := (xm, a6)) (by rw [msRow_append]; exact ho13) hg13 hb13 (HX11.out.keep (hk12.mono fun _ _ _ => trivial)) HFT.out
                  have ho13' : OwnLe w13 w.heap.size 36 21 v13 (n5 + 1) (msRow (L5 ++ [(xm, a6)])) := by rw [HE.out.1, msRow_append]; exact ho13
                  obtain ⟨A13, c13, rfl, -, -, -⟩ := ho13'.form
                  have HI13 := Lib.hid hi13
                  have HO13 := Lib.hid ((HO11.out.keep (hk12.mono fun _ _ _ => trivial : Keeps (fun _ => True) w11 w12) trivial).keep hgo.keep HS10.out)
                  have HS13 := Lib.hid (hgo.safe ob (Nat.lt_of_lt_of_le HO11.out.lt hk12.size) HS10.out)
                  clear hi13 hgo ho13 ho13' hg13 hb13 hk12 hs12 hb12 HI11 HB11 HO11 HX11 HE HS10 HG10
                  go_wp2_with fail
                  go_roundw
                  case rel => exact ⟨t + 1, n5 + 1, kk + 1, L5 ++ [(xm, a6)], M ++ [(xm, a6)], A13, A10, c13, c10, htm1, ht51, by go_num, by go_num, rfl, rfl, by omega, by omega, HE2, HI13, HO13, HS13⟩
                  case measure => simp [intOf]; omega
              · have hend' : (t = mn) ∨ (t = 4 ∧ t < mn) := by omega
                have HRM := Lib.hid (sent_room (M.map (·.1)) (L.map (·.1)) (by
                  rw [List.length_map, List.length_map, ← HN.out, ← HE.out.2.1]; omega))
                have hf9 := HI.out.row9.form
                have hl9 : t ≤ c9 ∧ c9 ≤ maxLen := by
                  obtain ⟨_, _, e, h1, h2, -⟩ := hf9
                  injection e with _ e1 e2
                  rw [e2, e1]; exact ⟨h1, h2⟩
                have HSD := Lib.hid (S.send w wr q F (L.map (·.1)) A9 c9 t (fun b => ¬ F b) M HT.out HI.out.at_ HE.out.2.1 ⟨by
                    intro hne
                    have h0 : 0 < M.length := by
                      rcases Nat.eq_zero_or_pos M.length with h0 | h0
                      · rw [List.eq_nil_of_length_eq_zero h0] at hne; exact absurd rfl hne
                      · exact h0
                    obtain ⟨_, _, e, -, -, hh⟩ := hf9
                    obtain ⟨g9, rfl, -, -⟩ := hh h0
                    have hr9 := HI.out.row9
                    rw [e] at hr9
                    injection e with e1 e2 e3
                    subst e1 e3
                    exact ⟨g9, 0, rfl, HI.out.ap9 g9 rfl, fun i v hv => by rw [Nat.zero_add]; exact hr9.cell hv⟩, fun p hp => (HI.out.lists p (List.mem_append_right _ hp)).mono fun b _ h => h.1⟩ (fun b hb => hb) hl9.1 hl9.2 (by omega) (fun p hp => HI.out.fits p (List.mem_append_right _ hp)))
                rw [HRM.out, ← HE.out.2.2.1, ← HE.out.2.2.2] at HSD
                clear hf9 hl9 HRM
                have fin : ∀ w7 F7, S.At w w7 q F7 (L5.map (·.1)) → (∀ b, F7 b → F b ∨ wr.heap.size ≤ b) → Keeps (fun b => ¬ F b) wr w7 → NI S w w7 q (L5.map (·.1)) L5 (.slice A5 n5 c5) [] (.slice none 0 0) F7 := fun w7 F7 h1 h2 h3 => ((HI.out.next h1 h2 h3).1).clear
                have HFN := Lib.hid fin
                have hn6 : n5 ≤ 4 * (j + 1) := by omega
                have HE1 := Lib.hid HE.out.1
                have q1 : ((kk : Int) != (kk : Int)) = false := by simp
                clear fin HI HE HO HS
                rcases hend' with h | ⟨h, h2⟩
                · have p1 : ¬ (t : Int) < (mn : Int) := by omega
                  have p3 : decide (t < mn) = false := decide_eq_false (by omega)
                  clear h hend
                  go_wp2_with fail
                  refine (show Calls _ _ _ _ _ from HSD.out).mono ?_
                  rintro e w7 ⟨rfl, F7, h1, h2, h3⟩
                  have HI7 := Lib.hid (HFN.out w7 F7 h1 h2 h3)
                  clear h1 h2 h3 HSD HFN
                  go_wp2_with fail
                  go_meet
                  exact ⟨n5, L5, A5, c5, F7, rfl, hn6, HE1, HI7⟩
                · have p1 : (t : Int) < (mn : Int) := by omega
                  have p3 : decide (t < mn) = true := decide_eq_true h2
                  have p2 : ¬ (t : Int) < 4 := by omega
                  have p4 : decide (t < 4) = false := decide_eq_false (by omega)
                  clear h h2 hend
                  go_wp2_with fail
                  refine (show Calls _ _ _ _ _ from HSD.out).mono ?_
                  rintro e w7 ⟨rfl, F7, h1, h2, h3⟩
                  have HI7 := Lib.hid (HFN.out w7 F7 h1 h2 h3)
                  clear h1 h2 h3 HSD HFN
                  go_wp2_with fail
                  go_meet
                  exact ⟨n5, L5, A5, c5, F7, rfl, hn6, HE1, HI7⟩
          ·
            cases inn with
            | false =>
              have hno : ix < 0 ∨ ((L.map (·.1)).length : Int) ≤ ix := by
                rw [List.length_map, ← HN.out]
                by_cases h : 0 ≤ ix
                · by_cases h2 : ix < (n : Int)
                  · have := HIN.out; simp [h, h2] at this
                  · exact .inr (by omega)
                · exact .inl (by omega)
              have HLK := Lib.hid (S.lookNo w wc q F _ ix HT.out HI4.out.at_ hno)
              have HTK := Lib.hid (fun w5 h => S.takeNo w w5 q F (L.map (·.1)) ix HT.out h hno)
              have i1 := HO4.out.c1
              clear hno
              go_wp2_with fail
              refine (show Calls _ _ _ _ _ from HLK.out).mono ?_
              rintro e w5 ⟨⟨m5, a5, rfl, hz5⟩, hk5⟩
              obtain ⟨vX, hvX⟩ : ∃ v, msV m5 a5 = v := ⟨_, rfl⟩
              have HVX := Lib.hid hvX
              rw [hvX]
              have HI5 := Lib.hid (HI4.out.keep hk5)
              have HO5 := Lib.hid (HO4.out.keep (hk5.mono fun _ _ _ => trivial : Keeps (fun _ => True) wc w5) trivial)
              have HZK := Lib.hid hz5
              clear hz5 hk5 hvX HLK i1
              go_upto_region 32 with (first
                | (refine list_allocM rfl rfl ?_; intro w6 hb6 hk6 hs6)
                | (refine list_storeM rfl (.tmp 13) (.tmp 111) rfl _ _ m5 _ a5 hb6 rfl HVX.out.symm ?_; intro w7 hb7 hk7 hs7))
              have hk57 := kp_made hk6 hk7
              have HI7 := Lib.hid (HI5.out.box hk57 hb7 rfl)
              have HO7 := Lib.hid (HO5.out.keep (hk57.mono fun _ _ _ => trivial : Keeps (fun _ => True) w5 w7) trivial)
              have HB7 := Lib.hid hb7
              have hlt5 := HO5.out.lt
              generalize w5.heap.size = g13 at *
              have k0 := HO7.out.c0
              have i1 := HO7.out.c1
              clear hb6 hk6 hs6 hb7 hk7 hs7 hk57 HI5 HO5
              go_wp2_with fail
              refine (show Calls _ _ _ _ _ from HTK.out _ HI7.out.at_).mono ?_
              rintro e w8 ⟨⟨m8, a8, rfl, hz8⟩, hk8⟩
              obtain ⟨v8, hv8⟩ : ∃ v, msV m8 a8 = v := ⟨_, rfl⟩
              have HV8 := Lib.hid hv8
              rw [hv8]
              have HB8 := Lib.hid (HB7.out.kp hk8)
              have HI8 := Lib.hid (HI7.out.keep hk8)
              have HO8 := Lib.hid (HO7.out.keep (hk8.mono fun _ _ _ => trivial : Keeps (fun _ => True) w7 w8) trivial)
              replace HZK := Lib.hid hz8
              clear hz8 hk8 hv8 HTK k0 i1 HB7 HI7 HO7
              go_upto_region 34 with (refine list_storeM rfl (.tmp 13) (.tmp 121) rfl g13 m5 m8 a5 a8 HB8.out rfl HV8.out.symm ?_; intro w9 hb9 hk9 hs9)
              have HI9 := Lib.hid (HI8.out.boxset hk9 hb9)
              have HO9 := Lib.hid (HO8.out.keep hk9 (Nat.ne_of_lt hlt5))
              have HB9 := Lib.hid hb9
              clear hb9 hk9 hs9 HB8 HI8 HO8
              refine wp_region_guard (R := Kp) (V := Vv [.bool false, .bool false, .bool false, .bool false, .bool false, .bool false, undef, undef, undef, undef, undef, undef, undef, undef, .bool false, .bool false, .bool false, .bool false, .bool true, .bool true, .pointer (some ⟨g13, 0, none⟩), .int .i64 0, .bool false, .bool false, .bool false]) (w0 := w9) (GO [(3, some false), (5, some false), (16, some false), (19, some true)]) (by kernel_rfl) (fun w => Keeps.refl _ w) (fun _ _ _ h k => h.trans k) (Vv_keep _) (by kernel_rfl) (GO_is (by
                  intro p hp c hc
                  simp only [List.mem_cons, List.not_mem_nil, or_false] at hp
                  rcases hp with rfl | rfl | rfl | rfl <;> (cases hc; rfl))) (unwanted_of [6, 7, 8, 9, 10, 11, 12, 13] (by kernel_rfl) (by intro i hi; simp only [List.mem_cons, List.not_mem_nil, or_false] at hi; rcases hi with rfl | rfl | rfl | rfl | rfl | rfl | rfl | rfl <;> rfl)) ((Keeps.refl _ w9).drew) (each_of ?_) ?_
              · refine ⟨?_, ?_, ?_, ?_, ?_, ?_, ?_, ?_, ?_, ?_, ?_, ?_, ?_, ?_, ?_, ?_, ?_, ?_, ?_, ?_, ?_, ?_, ?_, ?_, ?_, trivial⟩ <;> intro hw a1 wx La
                · exact kp_move rfl (La.old 14 (by kernel_rfl))
                · exact kp_move rfl (La.old 8 (by kernel_rfl))
                · exact kp_neBN rfl rfl (La.val 0 123 (by kernel_rfl) (by kernel_rfl)) (La.val 1 124 (by kernel_rfl) (by kernel_rfl))
                · exact kp_move rfl (La.val 2 125 (by kernel_rfl) (by kernel_rfl))
                · exact kp_move rfl (La.old 8 (by kernel_rfl))
                · exact kp_move rfl (La.val 4 127 (by kernel_rfl) (by kernel_rfl))
                · exact absurd hw (by decide)
                · exact absurd hw (by decide)
                · exact absurd hw (by decide)
                · exact absurd hw (by decide)
                · exact absurd hw (by decide)
                · exact absurd hw (by decide)
                · exact absurd hw (by decide)
                · exact absurd hw (by decide)
                · exact kp_pick rfl (La.val 5 128 (by kernel_rfl) (by kernel_rfl)) rfl
                · exact kp_pick rfl (La.val 3 126 (by kernel_rfl) (by kernel_rfl)) (La.val 14 137 (by kernel_rfl) (by kernel_rfl))
                · exact kp_move rfl (La.val 15 138 (by kernel_rfl) (by kernel_rfl))
                · exact kp_move rfl (La.old 8 (by kernel_rfl))
                · exact kp_not19 rfl (La.val 17 140 (by kernel_rfl) (by kernel_rfl))
                · exact kp_move rfl (La.val 18 141 (by kernel_rfl) (by kernel_rfl))
                · exact kp_fa0 rfl (La.old 13 (by kernel_rfl))
                · exact kp_ldI ((HB9.out.kp La.rel).cell 0 (.int .i64 0) (by rw [← HZK.out]; rfl)) rfl (La.val 20 143 (by kernel_rfl) (by kernel_rfl))
                · exact kp_neI rfl rfl (La.val 21 144 (by kernel_rfl) (by kernel_rfl)) rfl
                · exact kp_pick rfl (La.val 19 142 (by kernel_rfl) (by kernel_rfl)) (La.val 22 145 (by kernel_rfl) (by kernel_rfl))
                · exact kp_pick rfl (La.val 16 139 (by kernel_rfl) (by kernel_rfl)) (La.val 23 146 (by kernel_rfl) (by kernel_rfl))
              · intro vs wy hky hlen hv
                match vs, hlen with
                | [v0, v1, v2, v3, v4, v5, v6, v7, v8, v9, v10, v11, v12, v13, v14, v15, v16, v17, v18, v19, v20, v21, v22, v23, v24], _ =>
                  have e24 : v24 = .bool false := hv 24 147 (by kernel_rfl)
                  subst e24
                  have HIY := Lib.hid (HI9.out.keep hky).clear
                  have HOY := Lib.hid (HO9.out.keep (hky.mono fun _ _ _ => trivial : Keeps (fun _ => True) w9 wy) trivial)
                  have k0 := HOY.out.c0
                  clear hv hky 
                  simp only [putAll, List.map, Act.put, List.setIfInBounds_toArray, List.set_cons_succ, List.set_cons_zero, Exit.then]
                  go_wp2_with fail
                  go_meet
                  exact ⟨n, L, _, c5, _, rfl, by omega, HN, HIY⟩
            | true =>
              obtain ⟨k, rfl⟩ : ∃ k : Nat, ix = (k : Int) := ⟨ix.toNat, by
                have h := HIN.out
                simp only [Bool.and_eq_true, decide_eq_true_eq] at h
                omega⟩
              have hkn : k < n := by
                have h := HIN.out
                simp only [Bool.and_eq_true, decide_eq_true_eq] at h
                omega
              have hkl : k < (L.map (·.1)).length := by rw [List.length_map, ← HN.out]; exact hkn
              have hkL : k < L.length := by rw [← HN.out]; exact hkn
              have hel : (L.map (·.1))[k] = L[k].1 := List.getElem_map _
              obtain ⟨g5, rfl⟩ := HI4.out.head HN.out (by omega)
              have hcap := HI4.out.cap HN.out
              have hcap2 : c5 ≤ 9223372036854775807 := by have := hcap.2; unfold maxLen at this; omega
              have hn2 : n ≤ 200 := by omega
              have HLK := Lib.hid (S.look w wc q F _ k hkl HT.out HI4.out.at_)
              have HTK := Lib.hid (fun w5 h => S.take w w5 q F (L.map (·.1)) k hkl HT.out h)
              rw [hel] at HLK HTK
              have HFM := Lib.hid (HI4.out.fits L[k] (List.mem_append_left _ (List.getElem_mem hkL)))
              have hrow := fun (w5 : World) (v9 : Value) (N5 : List Ms) (F5 : Nat → Prop) (h : NI S w w5 q N5 L (.slice (some ⟨g5, 0, none⟩) n c5) [] v9 F5) => show (∀ i v, (mcs L[k])[i]? = some v → w5.cell? ⟨g5, k * 21 + i, none⟩ = some v) ∧ MsAt w5 L[k].1 L[k].2 from by
                have h5 := h.row5
                refine ⟨fun i v hv => ?_, (h.lists L[k] (List.mem_append_left _ (List.getElem_mem hkL))).at_⟩
                have hi : i < 21 := by
                  have := (List.getElem?_eq_some_iff.1 hv).1
                  rwa [mcs_len] at this
                rw [← HN.out] at h5
                exact h5.cell (by rw [msRow_at L k i hkL hi]; exact hv)
              have HROW := Lib.hid hrow
              generalize L[k] = el at HLK HTK HFM HROW
              obtain ⟨m5, aL⟩ := el
              simp only at HLK HTK HFM HROW
              have i1 := HO4.out.c1
              clear hrow hel hkl
              go_wp2_with fail
              refine (show Calls _ _ _ _ _ from HLK.out).mono ?_
              rintro e w5 ⟨⟨a5, rfl, hm5, -⟩, hk5⟩
              obtain ⟨vX, hvX⟩ : ∃ v, msV m5 a5 = v := ⟨_, rfl⟩
              have HVX := Lib.hid hvX
              rw [hvX]
              have HI5 := Lib.hid (HI4.out.keep hk5)
              have HO5 := Lib.hid (HO4.out.keep (hk5.mono fun _ _ _ => trivial : Keeps (fun _ => True) wc w5) trivial)
              have HM5 := Lib.hid hm5.at_
              clear hm5 hk5 hvX HLK i1
              go_upto_region 32 with (first
                | (refine list_allocM rfl rfl ?_; intro w6 hb6 hk6 hs6)
                | (refine list_storeM rfl (.tmp 13) (.tmp 111) rfl _ _ m5 _ a5 hb6 rfl HVX.out.symm ?_; intro w7 hb7 hk7 hs7))
              have hk57 := kp_made hk6 hk7
              have HI7 := Lib.hid (HI5.out.box hk57 hb7 rfl)
              have HO7 := Lib.hid (HO5.out.keep (hk57.mono fun _ _ _ => trivial : Keeps (fun _ => True) w5 w7) trivial)
              have HB7 := Lib.hid hb7
              have hlt5 := HO5.out.lt
              have HM7 := Lib.hid (HM5.out.keep hk57)
              generalize w5.heap.size = g13 at *
              have k0 := HO7.out.c0
              have i1 := HO7.out.c1
              clear hb6 hk6 hs6 hb7 hk7 hs7 hk57 HI5 HO5 HM5
              go_wp2_with fail
              refine (show Calls _ _ _ _ _ from HTK.out _ HI7.out.at_).mono ?_
              rintro e w8 ⟨⟨a8, F8, rfl, hA8, hF8, hm8⟩, hk8⟩
              obtain ⟨v8, hv8⟩ : ∃ v, msV m5 a8 = v := ⟨_, rfl⟩
              have HV8 := Lib.hid hv8
              rw [hv8]
              have HB8 := Lib.hid (HB7.out.keep hk8 fun hf => HI7.out.ap9 g13 rfl hf)
              obtain ⟨hi8, hgo⟩ := HI7.out.next hA8 hF8 hk8
              have HI8 := Lib.hid hi8
              have HO8 := Lib.hid (HO7.out.keep hk8 HS4.out.1)
              have HM8 := Lib.hid (hm8.mono (H := fun b => b ≠ g13) fun b _ hb e => by
                rcases hb.2.1 with h | h
                · exact HI7.out.ap9 g13 rfl (by rw [← e]; exact h)
                · have := HB7.out.lt; omega)
              clear hA8 hF8 hm8 hk8 hv8 hi8 hgo HTK k0 i1 HB7 HI7 HO7 HM7 HVX
              have HVX := HV8
              go_upto_region 34 with (refine list_storeM rfl (.tmp 13) (.tmp 121) rfl g13 m5 m5 a5 a8 HB8.out rfl HV8.out.symm ?_; intro w9 hb9 hk9 hs9)
              have HI9 := Lib.hid (HI8.out.boxset hk9 hb9)
              have HO9 := Lib.hid (HO8.out.keep hk9 (Nat.ne_of_lt hlt5))
              have HB9 := Lib.hid hb9
              have HM9 := Lib.hid (HM8.out.keep hk9).at_
              clear hb9 hk9 hs9 HB8 HI8 HO8 HM8
              obtain ⟨hcl, hml⟩ := HROW.out _ _ _ _ HI9.out
              obtain ⟨vL, hvL⟩ : ∃ v, msV m5 aL = v := ⟨_, rfl⟩
              have HVL := Lib.hid hvL
              have HCL := Lib.hid hcl
              have HRE := Lib.hid (fun w5 (h : Kp w9 w5) => reqMsg w5 m5 m5 a8 aL (HM9.out.keep h) (hml.keep h) HFM.out HFM.out true (decide_eq_true rfl))
              rw [HVX.out, hvL] at HRE
              clear hcl hml hvL HROW HFM
              refine wp_region_guard (R := Kp) (V := Vv [.bool true, .bool true, .bool false, .bool false, .bool true, .bool true, v8, .slice (some ⟨g5, 0, none⟩) n c5, .pointer (some ⟨ob, 1, none⟩), .int .i64 (k : Int), .pointer (some ⟨g5, k * 21, none⟩), vL, .bool true, .bool false, .bool false, .bool false, .bool false, .bool true, .bool false, .bool false, undef, undef, undef, .bool false, .bool false]) (w0 := w9) (GO [(3, some false), (5, some true), (16, some false), (19, some false)]) (by kernel_rfl) (fun w => Keeps.refl _ w) (fun _ _ _ h k => h.trans k) (Vv_keep _) (by kernel_rfl) (GO_is (by
                  intro p hp c hc
                  simp only [List.mem_cons, List.not_mem_nil, or_false] at hp
                  rcases hp with rfl | rfl | rfl | rfl <;> (cases hc; rfl))) (unwanted_of [20, 21, 22] (by kernel_rfl) (by intro i hi; simp only [List.mem_cons, List.not_mem_nil, or_false] at hi; rcases hi with rfl | rfl | rfl <;> rfl)) ((Keeps.refl _ w9).drew) (each_of ?_) ?_
              · refine ⟨?_, ?_, ?_, ?_, ?_, ?_, ?_, ?_, ?_, ?_, ?_, ?_, ?_, ?_, ?_, ?_, ?_, ?_, ?_, ?_, ?_, ?_, ?_, ?_, ?_, trivial⟩ <;> intro hw a1 wx La
                · exact kp_move rfl (La.old 14 (by kernel_rfl))
                · exact kp_move rfl (La.old 8 (by kernel_rfl))
                · exact kp_neBN rfl rfl (La.val 0 123 (by kernel_rfl) (by kernel_rfl)) (La.val 1 124 (by kernel_rfl) (by kernel_rfl))
                · exact kp_move rfl (La.val 2 125 (by kernel_rfl) (by kernel_rfl))
                · exact kp_move rfl (La.old 8 (by kernel_rfl))
                · exact kp_move rfl (La.val 4 127 (by kernel_rfl) (by kernel_rfl))
                · exact kp_loadM HVX.out (HB9.out.kp La.rel) rfl (La.old 13 (by kernel_rfl))
                · exact kp_move rfl (La.old 5 (by kernel_rfl))
                · exact kp_fa1 rfl (La.old 7 (by kernel_rfl))
                · exact kp_ldI (HO9.out.keep (La.rel.mono fun _ _ _ => trivial : Keeps (fun _ => True) w9 wx) trivial).c1 rfl (La.val 8 131 (by kernel_rfl) (by kernel_rfl))
                · exact kp_ixN hkn rfl (La.val 7 130 (by kernel_rfl) (by kernel_rfl)) (La.val 9 132 (by kernel_rfl) (by kernel_rfl))
                · exact kp_ldN HVL.out (fun i v hv => La.rel.cell (HCL.out i v hv) trivial) rfl (La.val 10 133 (by kernel_rfl) (by kernel_rfl))
                · exact kp_c19b (cf_rmeq _ _ _) (HRE.out _ La.rel) rfl (La.val 6 129 (by kernel_rfl) (by kernel_rfl)) (La.val 11 134 (by kernel_rfl) (by kernel_rfl))
                · exact kp_not19 rfl (La.val 12 135 (by kernel_rfl) (by kernel_rfl))
                · exact kp_pick rfl (La.val 5 128 (by kernel_rfl) (by kernel_rfl)) (La.val 13 136 (by kernel_rfl) (by kernel_rfl))
                · exact kp_pick rfl (La.val 3 126 (by kernel_rfl) (by kernel_rfl)) (La.val 14 137 (by kernel_rfl) (by kernel_rfl))
                · exact kp_move rfl (La.val 15 138 (by kernel_rfl) (by kernel_rfl))
                · exact kp_move rfl (La.old 8 (by kernel_rfl))
                · exact kp_not19 rfl (La.val 17 140 (by kernel_rfl) (by kernel_rfl))
                · exact kp_move rfl (La.val 18 141 (by kernel_rfl) (by kernel_rfl))
                · exact absurd hw (by decide)
                · exact absurd hw (by decide)
                · exact absurd hw (by decide)
                · exact kp_pick rfl (La.val 19 142 (by kernel_rfl) (by kernel_rfl)) rfl
                · exact kp_pick rfl (La.val 16 139 (by kernel_rfl) (by kernel_rfl)) (La.val 23 146 (by kernel_rfl) (by kernel_rfl))
              · intro vs wy hky hlen hv
                match vs, hlen with
                | [v0, v1, v2, v3, v4, v5, v6, v7, v8, v9, v10, v11, v12, v13, v14, v15, v16, v17, v18, v19, v20, v21, v22, v23, v24], _ =>
                  have e24 : v24 = .bool false := hv 24 147 (by kernel_rfl)
                  subst e24
                  have HIY := Lib.hid (HI9.out.keep hky).clear
                  have HOY := Lib.hid (HO9.out.keep (hky.mono fun _ _ _ => trivial : Keeps (fun _ => True) w9 wy) trivial)
                  have k0 := HOY.out.c0
                  clear hv hky HRE HCL
                  simp only [putAll, List.map, Act.put, List.setIfInBounds_toArray, List.set_cons_succ, List.set_cons_zero, Exit.then]
                  go_upto_region 37 with fail
                  refine wp_region_guard (R := Kp) (V := VN w.heap.size wy.heap.size g5 n c5 k ob (L.take k ++ L.drop (k + 1))) (w0 := wy) (fun _ => none) (by kernel_rfl) (fun w => Keeps.refl _ w) (fun _ _ _ h k => h.trans k) (fun i w w' v h hv => VN_keep i w w' v h hv) (by kernel_rfl) (fun _ _ h => by cases h) (fun i o ho hw => (all_wanted (by kernel_rfl) ho hw).elim) ((Keeps.refl _ wy).drew) (each_of ?_) ?_
                  · refine ⟨?_, ?_, ?_, ?_, ?_, ?_, ?_, ?_, ?_, ?_, ?_, ?_, ?_, trivial⟩ <;> intro hw a1 wx La
                    · exact kp_move rfl (La.old 5 (by kernel_rfl))
                    · exact kp_fa1 rfl (La.old 7 (by kernel_rfl))
                    · exact kp_ldI (HOY.out.keep (La.rel.mono fun _ _ _ => trivial : Keeps (fun _ => True) wy wx) trivial).c1 rfl (La.val 1 155 (by kernel_rfl) (by kernel_rfl))
                    · exact kp_fa1 rfl (La.old 7 (by kernel_rfl))
                    · exact kp_ldI (HOY.out.keep (La.rel.mono fun _ _ _ => trivial : Keeps (fun _ => True) wy wx) trivial).c1 rfl (La.val 3 157 (by kernel_rfl) (by kernel_rfl))
                    · exact kp_firstN (n := n) (c := c5) (k := k) (by omega) hcap.1 hcap2 rfl (La.val 0 154 (by kernel_rfl) (by kernel_rfl)) (La.val 2 156 (by kernel_rfl) (by kernel_rfl)) (La.val 4 158 (by kernel_rfl) (by kernel_rfl))
                    · exact kp_move rfl (La.old 5 (by kernel_rfl))
                    · exact kp_fa1 rfl (La.old 7 (by kernel_rfl))
                    · exact kp_ldI (HOY.out.keep (La.rel.mono fun _ _ _ => trivial : Keeps (fun _ => True) wy wx) trivial).c1 rfl (La.val 7 161 (by kernel_rfl) (by kernel_rfl))
                    · exact kp_incN (by omega) rfl (La.val 8 162 (by kernel_rfl) (by kernel_rfl))
                    · exact kp_restN (n := n) (c := c5) (k := k + 1) (by omega) hcap.1 hcap2 rfl (La.val 6 160 (by kernel_rfl) (by kernel_rfl)) (La.val 9 163 (by kernel_rfl) (by kernel_rfl))
                    · exact kp_outN (Nat.le_trans HIY.out.kp.size La.rel.size) La.rel.size HN.out (by omega) hcap.1 hkn (by have h := (HIY.out.keep La.rel).row5; rw [← HN.out] at h; exact h) rfl (La.val 5 159 (by kernel_rfl) (by kernel_rfl)) (La.val 10 164 (by kernel_rfl) (by kernel_rfl))
                    · exact kp_passN (V := OutN w.heap.size wy.heap.size g5 (L.take k ++ L.drop (k + 1))) rfl (La.val 11 165 (by kernel_rfl) (by kernel_rfl))
                  · intro vs wz hkz hlen hv
                    match vs, hlen with
                    | [v0, v1, v2, v3, v4, v5, v6, v7, v8, v9, v10, v11, v12], _ =>
                      have hout : OutN w.heap.size wy.heap.size g5 (L.take k ++ L.drop (k + 1)) wz v12 := hv 12 5 (by kernel_rfl)
                      have hiz := HIY.out.cut5 hkz hout.1 (fun b e => by
                        rcases hout.2 b e with h | h
                        · exact .inl (by rw [h]; rfl)
                        · exact .inr h) (fun p hp => by
                        rcases List.mem_append.1 hp with h | h
                        · exact List.mem_of_mem_take h
                        · exact List.mem_of_mem_drop h)
                      obtain ⟨A9, c9, rfl, -, -, -⟩ := hout.1.form
                      have HIZ := Lib.hid hiz
                      have hle : (L.take k ++ L.drop (k + 1)).length ≤ 4 * (j + 1) := by
                        have := HN.out
                        rw [List.length_append, List.length_take, List.length_drop]; omega
                      clear hv hout hiz hkz
                      simp only [putAll, List.map, Act.put, List.setIfInBounds_toArray, List.set_cons_succ, List.set_cons_zero]
                      go_wp2_with fail
                      go_meet
                      exact ⟨(L.take k ++ L.drop (k + 1)).length, L.take k ++ L.drop (k + 1), A9, c9, _, rfl, hle, Lib.hid rfl, by have h := HIZ.out; rw [erase_map] at h; exact Lib.hid h⟩
          ·
            cases inn with
            | false =>
              have hno : ix < 0 ∨ ((L.map (·.1)).length : Int) ≤ ix := by
                rw [List.length_map, ← HN.out]
                by_cases h : 0 ≤ ix
                · by_cases h2 : ix < (n : Int)
                  · have := HIN.out; simp [h, h2] at this
                  · exact .inr (by omega)
                · exact .inl (by omega)
              have HLK := Lib.hid (S.lookNo w wc q F _ ix HT.out HI4.out.at_ hno)
              have HTK := Lib.hid (fun w5 h => S.takeNo w w5 q F (L.map (·.1)) ix HT.out h hno)
              have i1 := HO4.out.c1
              clear hno
              go_wp2_with fail
              refine (show Calls _ _ _ _ _ from HLK.out).mono ?_
              rintro e w5 ⟨⟨m5, a5, rfl, hz5⟩, hk5⟩
              obtain ⟨vX, hvX⟩ : ∃ v, msV m5 a5 = v := ⟨_, rfl⟩
              have HVX := Lib.hid hvX
              rw [hvX]
              have HI5 := Lib.hid (HI4.out.keep hk5)
              have HO5 := Lib.hid (HO4.out.keep (hk5.mono fun _ _ _ => trivial : Keeps (fun _ => True) wc w5) trivial)
              have HZK := Lib.hid hz5
              clear hz5 hk5 hvX HLK i1
              go_upto_region 32 with (first
                | (refine list_allocM rfl rfl ?_; intro w6 hb6 hk6 hs6)
                | (refine list_storeM rfl (.tmp 13) (.tmp 111) rfl _ _ m5 _ a5 hb6 rfl HVX.out.symm ?_; intro w7 hb7 hk7 hs7))
              have hk57 := kp_made hk6 hk7
              have HI7 := Lib.hid (HI5.out.box hk57 hb7 rfl)
              have HO7 := Lib.hid (HO5.out.keep (hk57.mono fun _ _ _ => trivial : Keeps (fun _ => True) w5 w7) trivial)
              have HB7 := Lib.hid hb7
              have hlt5 := HO5.out.lt
              generalize w5.heap.size = g13 at *
              have k0 := HO7.out.c0
              have i1 := HO7.out.c1
              clear hb6 hk6 hs6 hb7 hk7 hs7 hk57 HI5 HO5
              clear HTK
              go_upto_region 34 with fail
              refine wp_region_guard (R := Kp) (V := Vv [.bool false, .bool false, .bool false, .bool false, .bool false, .bool false, undef, undef, undef, undef, undef, undef, undef, undef, .bool false, .bool false, .bool false, .bool false, .bool true, .bool true, .pointer (some ⟨g13, 0, none⟩), .int .i64 0, .bool false, .bool false, .bool false]) (w0 := w7) (GO [(3, some false), (5, some false), (16, some false), (19, some true)]) (by kernel_rfl) (fun w => Keeps.refl _ w) (fun _ _ _ h k => h.trans k) (Vv_keep _) (by kernel_rfl) (GO_is (by
                  intro p hp c hc
                  simp only [List.mem_cons, List.not_mem_nil, or_false] at hp
                  rcases hp with rfl | rfl | rfl | rfl <;> (cases hc; rfl))) (unwanted_of [6, 7, 8, 9, 10, 11, 12, 13] (by kernel_rfl) (by intro i hi; simp only [List.mem_cons, List.not_mem_nil, or_false] at hi; rcases hi with rfl | rfl | rfl | rfl | rfl | rfl | rfl | rfl <;> rfl)) ((Keeps.refl _ w7).drew) (each_of ?_) ?_
              · refine ⟨?_, ?_, ?_, ?_, ?_, ?_, ?_, ?_, ?_, ?_, ?_, ?_, ?_, ?_, ?_, ?_, ?_, ?_, ?_, ?_, ?_, ?_, ?_, ?_, ?_, trivial⟩ <;> intro hw a1 wx La
                · exact kp_move rfl (La.old 14 (by kernel_rfl))
                · exact kp_move rfl (La.old 8 (by kernel_rfl))
                · exact kp_neBN rfl rfl (La.val 0 123 (by kernel_rfl) (by kernel_rfl)) (La.val 1 124 (by kernel_rfl) (by kernel_rfl))
                · exact kp_move rfl (La.val 2 125 (by kernel_rfl) (by kernel_rfl))
                · exact kp_move rfl (La.old 8 (by kernel_rfl))
                · exact kp_move rfl (La.val 4 127 (by kernel_rfl) (by kernel_rfl))
                · exact absurd hw (by decide)
                · exact absurd hw (by decide)
                · exact absurd hw (by decide)
                · exact absurd hw (by decide)
                · exact absurd hw (by decide)
                · exact absurd hw (by decide)
                · exact absurd hw (by decide)
                · exact absurd hw (by decide)
                · exact kp_pick rfl (La.val 5 128 (by kernel_rfl) (by kernel_rfl)) rfl
                · exact kp_pick rfl (La.val 3 126 (by kernel_rfl) (by kernel_rfl)) (La.val 14 137 (by kernel_rfl) (by kernel_rfl))
                · exact kp_move rfl (La.val 15 138 (by kernel_rfl) (by kernel_rfl))
                · exact kp_move rfl (La.old 8 (by kernel_rfl))
                · exact kp_not19 rfl (La.val 17 140 (by kernel_rfl) (by kernel_rfl))
                · exact kp_move rfl (La.val 18 141 (by kernel_rfl) (by kernel_rfl))
                · exact kp_fa0 rfl (La.old 13 (by kernel_rfl))
                · exact kp_ldI ((HB7.out.kp La.rel).cell 0 (.int .i64 0) (by rw [← HZK.out]; rfl)) rfl (La.val 20 143 (by kernel_rfl) (by kernel_rfl))
                · exact kp_neI rfl rfl (La.val 21 144 (by kernel_rfl) (by kernel_rfl)) rfl
                · exact kp_pick rfl (La.val 19 142 (by kernel_rfl) (by kernel_rfl)) (La.val 22 145 (by kernel_rfl) (by kernel_rfl))
                · exact kp_pick rfl (La.val 16 139 (by kernel_rfl) (by kernel_rfl)) (La.val 23 146 (by kernel_rfl) (by kernel_rfl))
              · intro vs wy hky hlen hv
                match vs, hlen with
                | [v0, v1, v2, v3, v4, v5, v6, v7, v8, v9, v10, v11, v12, v13, v14, v15, v16, v17, v18, v19, v20, v21, v22, v23, v24], _ =>
                  have e24 : v24 = .bool false := hv 24 147 (by kernel_rfl)
                  subst e24
                  have HIY := Lib.hid (HI7.out.keep hky).clear
                  have HOY := Lib.hid (HO7.out.keep (hky.mono fun _ _ _ => trivial : Keeps (fun _ => True) w7 wy) trivial)
                  have k0 := HOY.out.c0
                  clear hv hky 
                  simp only [putAll, List.map, Act.put, List.setIfInBounds_toArray, List.set_cons_succ, List.set_cons_zero, Exit.then]
                  go_wp2_with fail
                  go_meet
                  exact ⟨n, L, _, c5, _, rfl, by omega, HN, HIY⟩
            | true =>
              obtain ⟨k, rfl⟩ : ∃ k : Nat, ix = (k : Int) := ⟨ix.toNat, by
                have h := HIN.out
                simp only [Bool.and_eq_true, decide_eq_true_eq] at h
                omega⟩
              have hkn : k < n := by
                have h := HIN.out
                simp only [Bool.and_eq_true, decide_eq_true_eq] at h
                omega
              have hkl : k < (L.map (·.1)).length := by rw [List.length_map, ← HN.out]; exact hkn
              have hkL : k < L.length := by rw [← HN.out]; exact hkn
              have hel : (L.map (·.1))[k] = L[k].1 := List.getElem_map _
              obtain ⟨g5, rfl⟩ := HI4.out.head HN.out (by omega)
              have hcap := HI4.out.cap HN.out
              have hcap2 : c5 ≤ 9223372036854775807 := by have := hcap.2; unfold maxLen at this; omega
              have hn2 : n ≤ 200 := by omega
              have HLK := Lib.hid (S.look w wc q F _ k hkl HT.out HI4.out.at_)
              have HTK := Lib.hid (fun w5 h => S.take w w5 q F (L.map (·.1)) k hkl HT.out h)
              rw [hel] at HLK HTK
              have HFM := Lib.hid (HI4.out.fits L[k] (List.mem_append_left _ (List.getElem_mem hkL)))
              have hrow := fun (w5 : World) (v9 : Value) (N5 : List Ms) (F5 : Nat → Prop) (h : NI S w w5 q N5 L (.slice (some ⟨g5, 0, none⟩) n c5) [] v9 F5) => show (∀ i v, (mcs L[k])[i]? = some v → w5.cell? ⟨g5, k * 21 + i, none⟩ = some v) ∧ MsAt w5 L[k].1 L[k].2 from by
                have h5 := h.row5
                refine ⟨fun i v hv => ?_, (h.lists L[k] (List.mem_append_left _ (List.getElem_mem hkL))).at_⟩
                have hi : i < 21 := by
                  have := (List.getElem?_eq_some_iff.1 hv).1
                  rwa [mcs_len] at this
                rw [← HN.out] at h5
                exact h5.cell (by rw [msRow_at L k i hkL hi]; exact hv)
              have HROW := Lib.hid hrow
              generalize L[k] = el at HLK HTK HFM HROW
              obtain ⟨m5, aL⟩ := el
              simp only at HLK HTK HFM HROW
              have i1 := HO4.out.c1
              clear hrow hel hkl
              go_wp2_with fail
              refine (show Calls _ _ _ _ _ from HLK.out).mono ?_
              rintro e w5 ⟨⟨a5, rfl, hm5, -⟩, hk5⟩
              obtain ⟨vX, hvX⟩ : ∃ v, msV m5 a5 = v := ⟨_, rfl⟩
              have HVX := Lib.hid hvX
              rw [hvX]
              have HI5 := Lib.hid (HI4.out.keep hk5)
              have HO5 := Lib.hid (HO4.out.keep (hk5.mono fun _ _ _ => trivial : Keeps (fun _ => True) wc w5) trivial)
              have HM5 := Lib.hid hm5.at_
              clear hm5 hk5 hvX HLK i1
              go_upto_region 32 with (first
                | (refine list_allocM rfl rfl ?_; intro w6 hb6 hk6 hs6)
                | (refine list_storeM rfl (.tmp 13) (.tmp 111) rfl _ _ m5 _ a5 hb6 rfl HVX.out.symm ?_; intro w7 hb7 hk7 hs7))
              have hk57 := kp_made hk6 hk7
              have HI7 := Lib.hid (HI5.out.box hk57 hb7 rfl)
              have HO7 := Lib.hid (HO5.out.keep (hk57.mono fun _ _ _ => trivial : Keeps (fun _ => True) w5 w7) trivial)
              have HB7 := Lib.hid hb7
              have hlt5 := HO5.out.lt
              have HM7 := Lib.hid (HM5.out.keep hk57)
              generalize w5.heap.size = g13 at *
              have k0 := HO7.out.c0
              have i1 := HO7.out.c1
              clear hb6 hk6 hs6 hb7 hk7 hs7 hk57 HI5 HO5 HM5
              clear HTK
              go_upto_region 34 with fail
              obtain ⟨hcl, hml⟩ := HROW.out _ _ _ _ HI7.out
              obtain ⟨vL, hvL⟩ : ∃ v, msV m5 aL = v := ⟨_, rfl⟩
              have HVL := Lib.hid hvL
              have HCL := Lib.hid hcl
              have HRE := Lib.hid (fun w5 (h : Kp w7 w5) => reqMsg w5 m5 m5 a5 aL (HM7.out.keep h) (hml.keep h) HFM.out HFM.out true (decide_eq_true rfl))
              rw [HVX.out, hvL] at HRE
              clear hcl hml hvL HROW HFM
              refine wp_region_guard (R := Kp) (V := Vv [.bool true, .bool true, .bool false, .bool false, .bool true, .bool true, vX, .slice (some ⟨g5, 0, none⟩) n c5, .pointer (some ⟨ob, 1, none⟩), .int .i64 (k : Int), .pointer (some ⟨g5, k * 21, none⟩), vL, .bool true, .bool false, .bool false, .bool false, .bool false, .bool true, .bool false, .bool false, undef, undef, undef, .bool false, .bool false]) (w0 := w7) (GO [(3, some false), (5, some true), (16, some false), (19, some false)]) (by kernel_rfl) (fun w => Keeps.refl _ w) (fun _ _ _ h k => h.trans k) (Vv_keep _) (by kernel_rfl) (GO_is (by
                  intro p hp c hc
                  simp only [List.mem_cons, List.not_mem_nil, or_false] at hp
                  rcases hp with rfl | rfl | rfl | rfl <;> (cases hc; rfl))) (unwanted_of [20, 21, 22] (by kernel_rfl) (by intro i hi; simp only [List.mem_cons, List.not_mem_nil, or_false] at hi; rcases hi with rfl | rfl | rfl <;> rfl)) ((Keeps.refl _ w7).drew) (each_of ?_) ?_
              · refine ⟨?_, ?_, ?_, ?_, ?_, ?_, ?_, ?_, ?_, ?_, ?_, ?_, ?_, ?_, ?_, ?_, ?_, ?_, ?_, ?_, ?_, ?_, ?_, ?_, ?_, trivial⟩ <;> intro hw a1 wx La
                · exact kp_move rfl (La.old 14 (by kernel_rfl))
                · exact kp_move rfl (La.old 8 (by kernel_rfl))
                · exact kp_neBN rfl rfl (La.val 0 123 (by kernel_rfl) (by kernel_rfl)) (La.val 1 124 (by kernel_rfl) (by kernel_rfl))
                · exact kp_move rfl (La.val 2 125 (by kernel_rfl) (by kernel_rfl))
                · exact kp_move rfl (La.old 8 (by kernel_rfl))
                · exact kp_move rfl (La.val 4 127 (by kernel_rfl) (by kernel_rfl))
                · exact kp_loadM HVX.out (HB7.out.kp La.rel) rfl (La.old 13 (by kernel_rfl))
                · exact kp_move rfl (La.old 5 (by kernel_rfl))
                · exact kp_fa1 rfl (La.old 7 (by kernel_rfl))
                · exact kp_ldI (HO7.out.keep (La.rel.mono fun _ _ _ => trivial : Keeps (fun _ => True) w7 wx) trivial).c1 rfl (La.val 8 131 (by kernel_rfl) (by kernel_rfl))
                · exact kp_ixN hkn rfl (La.val 7 130 (by kernel_rfl) (by kernel_rfl)) (La.val 9 132 (by kernel_rfl) (by kernel_rfl))
                · exact kp_ldN HVL.out (fun i v hv => La.rel.cell (HCL.out i v hv) trivial) rfl (La.val 10 133 (by kernel_rfl) (by kernel_rfl))
                · exact kp_c19b (cf_rmeq _ _ _) (HRE.out _ La.rel) rfl (La.val 6 129 (by kernel_rfl) (by kernel_rfl)) (La.val 11 134 (by kernel_rfl) (by kernel_rfl))
                · exact kp_not19 rfl (La.val 12 135 (by kernel_rfl) (by kernel_rfl))
                · exact kp_pick rfl (La.val 5 128 (by kernel_rfl) (by kernel_rfl)) (La.val 13 136 (by kernel_rfl) (by kernel_rfl))
                · exact kp_pick rfl (La.val 3 126 (by kernel_rfl) (by kernel_rfl)) (La.val 14 137 (by kernel_rfl) (by kernel_rfl))
                · exact kp_move rfl (La.val 15 138 (by kernel_rfl) (by kernel_rfl))
                · exact kp_move rfl (La.old 8 (by kernel_rfl))
                · exact kp_not19 rfl (La.val 17 140 (by kernel_rfl) (by kernel_rfl))
                · exact kp_move rfl (La.val 18 141 (by kernel_rfl) (by kernel_rfl))
                · exact absurd hw (by decide)
                · exact absurd hw (by decide)
                · exact absurd hw (by decide)
                · exact kp_pick rfl (La.val 19 142 (by kernel_rfl) (by kernel_rfl)) rfl
                · exact kp_pick rfl (La.val 16 139 (by kernel_rfl) (by kernel_rfl)) (La.val 23 146 (by kernel_rfl) (by kernel_rfl))
              · intro vs wy hky hlen hv
                match vs, hlen with
                | [v0, v1, v2, v3, v4, v5, v6, v7, v8, v9, v10, v11, v12, v13, v14, v15, v16, v17, v18, v19, v20, v21, v22, v23, v24], _ =>
                  have e24 : v24 = .bool false := hv 24 147 (by kernel_rfl)
                  subst e24
                  have HIY := Lib.hid (HI7.out.keep hky).clear
                  have HOY := Lib.hid (HO7.out.keep (hky.mono fun _ _ _ => trivial : Keeps (fun _ => True) w7 wy) trivial)
                  have k0 := HOY.out.c0
                  clear hv hky HRE HCL
                  simp only [putAll, List.map, Act.put, List.setIfInBounds_toArray, List.set_cons_succ, List.set_cons_zero, Exit.then]
                  go_wp2_with fail
                  go_meet
                  exact ⟨n, L, _, c5, _, rfl, by omega, HN, HIY⟩
          ·
            cases inn with
            | false =>
              have hno : ix < 0 ∨ ((L.map (·.1)).length : Int) ≤ ix := by
                rw [List.length_map, ← HN.out]
                by_cases h : 0 ≤ ix
                · by_cases h2 : ix < (n : Int)
                  · have := HIN.out; simp [h, h2] at this
                  · exact .inr (by omega)
                · exact .inl (by omega)
              have HDK := Lib.hid (S.dropNo w wc q F _ ix HT.out HI4.out.at_ hno)
              have i1 := HO4.out.c1
              clear hno
              go_wp2_with fail
              refine (show Calls _ _ _ _ _ from HDK.out).mono ?_
              rintro e w5 ⟨rfl, hk5⟩
              have HI5 := Lib.hid (HI4.out.keep hk5)
              clear hk5 HDK i1 HI4
              go_wp2_with fail
              go_meet
              exact ⟨n, L, _, c5, _, rfl, by omega, HN, HI5⟩
            | true =>
              obtain ⟨k, rfl⟩ : ∃ k : Nat, ix = (k : Int) := ⟨ix.toNat, by
                have h := HIN.out
                simp only [Bool.and_eq_true, decide_eq_true_eq] at h
                omega⟩
              have hkn : k < n := by
                have h := HIN.out
                simp only [Bool.and_eq_true, decide_eq_true_eq] at h
                omega
              have hkl : k < (L.map (·.1)).length := by rw [List.length_map, ← HN.out]; exact hkn
              have hkL : k < L.length := by rw [← HN.out]; exact hkn
              have hel : (L.map (·.1))[k] = L[k].1 := List.getElem_map _
              obtain ⟨g5, rfl⟩ := HI4.out.head HN.out (by omega)
              have hcap := HI4.out.cap HN.out
              have hcap2 : c5 ≤ 9223372036854775807 := by have := hcap.2; unfold maxLen at this; omega
              have hn2 : n ≤ 200 := by omega
              have HDK := Lib.hid (S.drop w wc q F _ k hkl HT.out HI4.out.at_)
              have i1 := HO4.out.c1
              clear hel
              go_wp2_with fail
              refine (show Calls _ _ _ _ _ from HDK.out).mono ?_
              rintro e w5 ⟨rfl, F5, hA5, hF5, hk5⟩
              have HI5 := Lib.hid (HI4.out.next hA5 hF5 hk5).1
              have HO5 := Lib.hid (HO4.out.keep hk5 HS4.out.1)
              clear hA5 hF5 hk5 HDK i1 HI4
              go_upto_region 15 with fail
              refine wp_region_guard (R := Kp) (V := VN w.heap.size w5.heap.size g5 n c5 k ob (L.take k ++ L.drop (k + 1))) (w0 := w5) (fun _ => none) (by kernel_rfl) (fun w => Keeps.refl _ w) (fun _ _ _ h k => h.trans k) (fun i w w' v h hv => VN_keep i w w' v h hv) (by kernel_rfl) (fun _ _ h => by cases h) (fun i o ho hw => (all_wanted (by kernel_rfl) ho hw).elim) ((Keeps.refl _ w5).drew) (each_of ?_) ?_
              · refine ⟨?_, ?_, ?_, ?_, ?_, ?_, ?_, ?_, ?_, ?_, ?_, ?_, ?_, trivial⟩ <;> intro hw a1 wx La
                · exact kp_move rfl (La.old 5 (by kernel_rfl))
                · exact kp_fa1 rfl (La.old 7 (by kernel_rfl))
                · exact kp_ldI (HO5.out.keep (La.rel.mono fun _ _ _ => trivial : Keeps (fun _ => True) w5 wx) trivial).c1 rfl (La.val 1 56 (by kernel_rfl) (by kernel_rfl))
                · exact kp_fa1 rfl (La.old 7 (by kernel_rfl))
                · exact kp_ldI (HO5.out.keep (La.rel.mono fun _ _ _ => trivial : Keeps (fun _ => True) w5 wx) trivial).c1 rfl (La.val 3 58 (by kernel_rfl) (by kernel_rfl))
                · exact kp_firstN (n := n) (c := c5) (k := k) (by omega) hcap.1 hcap2 rfl (La.val 0 55 (by kernel_rfl) (by kernel_rfl)) (La.val 2 57 (by kernel_rfl) (by kernel_rfl)) (La.val 4 59 (by kernel_rfl) (by kernel_rfl))
                · exact kp_move rfl (La.old 5 (by kernel_rfl))
                · exact kp_fa1 rfl (La.old 7 (by kernel_rfl))
                · exact kp_ldI (HO5.out.keep (La.rel.mono fun _ _ _ => trivial : Keeps (fun _ => True) w5 wx) trivial).c1 rfl (La.val 7 62 (by kernel_rfl) (by kernel_rfl))
                · exact kp_incN (by omega) rfl (La.val 8 63 (by kernel_rfl) (by kernel_rfl))
                · exact kp_restN (n := n) (c := c5) (k := k + 1) (by omega) hcap.1 hcap2 rfl (La.val 6 61 (by kernel_rfl) (by kernel_rfl)) (La.val 9 64 (by kernel_rfl) (by kernel_rfl))
                · exact kp_outN (Nat.le_trans HI5.out.kp.size La.rel.size) La.rel.size HN.out (by omega) hcap.1 hkn (by have h := (HI5.out.keep La.rel).row5; rw [← HN.out] at h; exact h) rfl (La.val 5 60 (by kernel_rfl) (by kernel_rfl)) (La.val 10 65 (by kernel_rfl) (by kernel_rfl))
                · exact kp_passN (V := OutN w.heap.size w5.heap.size g5 (L.take k ++ L.drop (k + 1))) rfl (La.val 11 66 (by kernel_rfl) (by kernel_rfl))
              · intro vs wz hkz hlen hv
                match vs, hlen with
                | [v0, v1, v2, v3, v4, v5, v6, v7, v8, v9, v10, v11, v12], _ =>
                  have hout : OutN w.heap.size w5.heap.size g5 (L.take k ++ L.drop (k + 1)) wz v12 := hv 12 5 (by kernel_rfl)
                  have hiz := HI5.out.cut5 hkz hout.1 (fun b e => by
                    rcases hout.2 b e with h | h
                    · exact .inl (by rw [h]; rfl)
                    · exact .inr h) (fun p hp => by
                    rcases List.mem_append.1 hp with h | h
                    · exact List.mem_of_mem_take h
                    · exact List.mem_of_mem_drop h)
                  obtain ⟨A9, c9, rfl, -, -, -⟩ := hout.1.form
                  have HIZ := Lib.hid hiz
                  have hle : (L.take k ++ L.drop (k + 1)).length ≤ 4 * (j + 1) := by
                    have := HN.out
                    rw [List.length_append, List.length_take, List.length_drop]; omega
                  clear hv hout hiz hkz
                  simp only [putAll, List.map, Act.put, List.setIfInBounds_toArray, List.set_cons_succ, List.set_cons_zero]
                  go_wp2_with fail
                  go_meet
                  exact ⟨(L.take k ++ L.drop (k + 1)).length, L.take k ++ L.drop (k + 1), A9, c9, _, rfl, hle, Lib.hid rfl, by have h := HIZ.out; rw [erase_map] at h; exact Lib.hid h⟩
        case rest =>
          obtain ⟨n2, L2, A2, c2, F2, rfl, hn2, HN2, HI2⟩ := hcut
          have HLN := Lib.hid (S.len w wc q F2 _ HT.out HI2.out.at_)
          rw [List.length_map, ← HN2.out] at HLN
          clear HI4 HO4 HS4 HM k0
          go_wp2_with fail
          refine (show Calls _ _ _ _ _ from HLN.out).mono ?_
          rintro e w5 ⟨rfl, hk5⟩
          have HI5 := Lib.hid (HI2.out.keep hk5)
          clear hk5 HLN HI2
          go_wp2_with fail
          go_roundw
          case rel => exact ⟨j + 1, n2, L2, A2, c2, F2, hj1, hj2, by go_num, rfl, hn2, HN2, HI5⟩
          case measure => simp [intOf]; omega
    focus
      have p1 : ¬ (j : Int) < (l.length : Int) := by omega
      have p3 : decide (j < l.length) = false := decide_eq_false (by omega)
      go_upto_region 40 with fail
      clear p1 p3 hend
    rotate_left
    focus
      have p1 : (j : Int) < (l.length : Int) := by omega
      have p3 : decide (j < l.length) = true := decide_eq_true hjl
      have p2 : ¬ (j : Int) < 50 := by omega
      have p4 : decide (j < 50) = false := decide_eq_false (by omega)
      go_upto_region 40 with fail
      clear p1 p3 p2 p4 hjl hj5
    all_goals
      go_wp2_with fail
      go_loopw [15] (fun i wr => ∃ k : Nat, k ≤ n ∧ i = .int .i64 (k : Int) ∧ Hid (NI S w wr q (L.map (·.1)) L (.slice A5 n c5) [] (.slice none 0 0) F)) (fun i _ => n - (intOf i).toNat)
      case atStart => exact ⟨0, Nat.zero_le _, rfl, HI⟩
      case round =>
        clear HI
        obtain ⟨k, hk, rfl, HI⟩ := hrel
        by_cases hkn : k < n
        · have p1 : (k : Int) < (n : Int) := by omega
          have hkl : k < (L.map (·.1)).length := by rw [List.length_map, ← HN.out]; exact hkn
          have hkL : k < L.length := by rw [← HN.out]; exact hkn
          have hel : (L.map (·.1))[k] = L[k].1 := List.getElem_map _
          obtain ⟨g5, rfl⟩ := HI.out.head HN.out (by omega)
          have HLK := Lib.hid (S.look w wr q F _ k hkl HT.out HI.out.at_)
          rw [hel] at HLK
          have HFM := Lib.hid (HI.out.fits L[k] (List.mem_append_left _ (List.getElem_mem hkL)))
          have h5 := HI.out.row5
          have hr : (∀ i v, (mcs L[k])[i]? = some v → wr.cell? ⟨g5, k * 21 + i, none⟩ = some v) ∧ MsAt wr L[k].1 L[k].2 := by
            refine ⟨fun i v hv => ?_, (HI.out.lists L[k] (List.mem_append_left _ (List.getElem_mem hkL))).at_⟩
            have hi : i < 21 := by
              have := (List.getElem?_eq_some_iff.1 hv).1
              rwa [mcs_len] at this
            rw [← HN.out] at h5
            exact h5.cell (by rw [msRow_at L k i hkL hi]; exact hv)
          generalize L[k] = el at HLK HFM hr
          obtain ⟨m5, aL⟩ := el
          simp only at HLK HFM hr
          have HR := Lib.hid hr
          clear hr h5 hel hkl
          go_wp2_with fail
          refine (show Calls _ _ _ _ _ from HLK.out).mono ?_
          rintro e w5 ⟨⟨a5, rfl, hm5, -⟩, hk5⟩
          obtain ⟨vX, hvX⟩ : ∃ v, msV m5 a5 = v := ⟨_, rfl⟩
          have HVX := Lib.hid hvX
          rw [hvX]
          have HK5 := Lib.hid hk5
          have HM5 := Lib.hid hm5.at_
          clear hm5 hk5 hvX HLK
          go_upto_region 44 with (first
            | (refine list_allocM rfl rfl ?_; intro w6 hb6 hk6 hs6)
            | (refine list_storeM rfl (.tmp 16) (.tmp 181) rfl _ _ m5 _ a5 hb6 rfl HVX.out.symm ?_; intro w7 hb7 hk7 hs7))
          have hk57 := kp_made hk6 hk7
          have HK7 := Lib.hid (HK5.out.trans hk57)
          have HI7 := Lib.hid (HI.out.keep HK7.out)
          have HB7 := Lib.hid hb7
          have HM7 := Lib.hid (HM5.out.keep hk57)
          generalize w5.heap.size = g13 at *
          obtain ⟨vL, hvL⟩ : ∃ v, msV m5 aL = v := ⟨_, rfl⟩
          have HVL := Lib.hid hvL
          have HCL := Lib.hid (fun i v hv => HK7.out.cell (HR.out.1 i v hv) trivial)
          have HRE := Lib.hid (fun w8 (h : Kp w7 w8) => reqMsg w8 m5 m5 a5 aL (HM7.out.keep h) ((HR.out.2.keep HK7.out).keep h) HFM.out HFM.out true (decide_eq_true rfl))
          rw [HVX.out, hvL] at HRE
          clear hb6 hk6 hs6 hb7 hk7 hs7 hk57 HM5 HI HR hvL
          refine wp_region_guard (R := Kp) (V := Vv [.bool true, .bool false, .bool false, vX, .slice (some ⟨g5, 0, none⟩) n c5, .int .i64 (k : Int), .pointer (some ⟨g5, k * 21, none⟩), vL, .bool true, .bool false, .bool false]) (w0 := w7) (GO [(2, some false)]) (by kernel_rfl) (fun w => Keeps.refl _ w) (fun _ _ _ h k => h.trans k) (Vv_keep _) (by kernel_rfl) (GO_is (by
              intro p hp c hc
              simp only [List.mem_cons, List.not_mem_nil, or_false] at hp
              rcases hp with rfl
              cases hc; rfl)) (fun i o ho hw => (all_wanted (by kernel_rfl) ho hw).elim) ((Keeps.refl _ w7).drew) (each_of ?_) ?_
          · refine ⟨?_, ?_, ?_, ?_, ?_, ?_, ?_, ?_, ?_, ?_, ?_, trivial⟩ <;> intro hw a1 wx La
            · exact kp_move rfl (La.old 17 (by kernel_rfl))
            · exact kp_not19 rfl (La.val 0 183 (by kernel_rfl) (by kernel_rfl))
            · exact kp_move rfl (La.val 1 184 (by kernel_rfl) (by kernel_rfl))
            · exact kp_loadM HVX.out (HB7.out.kp La.rel) rfl (La.old 16 (by kernel_rfl))
            · exact kp_move rfl (La.old 5 (by kernel_rfl))
            · exact kp_move rfl (La.old 15 (by kernel_rfl))
            · exact kp_ixN hkn rfl (La.val 4 187 (by kernel_rfl) (by kernel_rfl)) (La.val 5 188 (by kernel_rfl) (by kernel_rfl))
            · exact kp_ldN HVL.out (fun i v hv => La.rel.cell (HCL.out i v hv) trivial) rfl (La.val 6 189 (by kernel_rfl) (by kernel_rfl))
            · exact kp_c19b (cf_rmeq _ _ _) (HRE.out _ La.rel) rfl (La.val 3 186 (by kernel_rfl) (by kernel_rfl)) (La.val 7 190 (by kernel_rfl) (by kernel_rfl))
            · exact kp_not19 rfl (La.val 8 191 (by kernel_rfl) (by kernel_rfl))
            · exact kp_pick rfl (La.val 2 185 (by kernel_rfl) (by kernel_rfl)) (La.val 9 192 (by kernel_rfl) (by kernel_rfl))
          · intro vs wy hky hlen hv
            match vs, hlen with
            | [v0, v1, v2, v3, v4, v5, v6, v7, v8, v9, v10], _ =>
              have e10 : v10 = .bool false := hv 10 193 (by kernel_rfl)
              subst e10
              have HIY := Lib.hid (HI7.out.keep hky)
              clear hv hky HRE HCL HI7
              simp only [putAll, List.map, Act.put, List.setIfInBounds_toArray, List.set_cons_succ, List.set_cons_zero, Exit.then]
              go_wp2_with fail
              go_roundw
              case rel => exact ⟨k + 1, hkn, by go_num, HIY⟩
              case measure => simp [intOf]; omega
        · obtain rfl : k = n := by omega
          have p1 : ¬ (k : Int) < (k : Int) := by omega
          have HK := Lib.hid HI.out.kp
          clear hkn hk
          go_wp2_with fail
          go_ret
          exact ⟨rfl, HFIN.out _ HK.out⟩
end netAll
end Go.Proofs.YtpijhpfcigjkeaaDoor
