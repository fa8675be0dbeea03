/-
  THE PROGRAM's INDEX: Drop, Below, and what a nil one answers.
-/
import Derived.Test.YtilcmlioofkkmaaIxPut
namespace Go.Proofs.Ytilcmlioofkkmaa
open Go Go.RowKit Go.Joins

theorem ixDrop_len {st : IxSt} {k : ByteArray} {v : Int} (hnd : (st.map (·.1)).Nodup) (hg : ixGet st k = some v) : (ixDrop st k).length + 1 = st.length := by
  induction st with
  | nil => cases hg
  | cons a st ih =>
    by_cases h : a.1 = k
    · obtain ⟨a1, a2⟩ := a
      have h : a1 = k := h
      subst h
      rw [ixDrop_cons hnd]; rfl
    · have hg' : ixGet st k = some v := by
        unfold ixGet at hg ⊢
        rw [List.find?_cons, isK_not.2 h] at hg
        exact hg
      rw [List.map_cons, List.nodup_cons] at hnd
      have e : ixDrop (a :: st) k = a :: ixDrop st k := by
        unfold ixDrop
        rw [List.filter_cons, isK_not.2 h]
        rfl
      rw [e, List.length_cons, ih hnd.2 hg', List.length_cons]
theorem ixBelow_same {st : IxSt} {p : Int} (h : (ixBelow st p).length = st.length) : ixBelow st p = st := by
  unfold ixBelow at h ⊢
  exact List.Sublist.eq_of_length List.filter_sublist h
theorem ixBelow_le (st : IxSt) (p : Int) : (ixBelow st p).length ≤ st.length := List.length_filter_le _ _

set_option maxRecDepth 100000 in
set_option maxHeartbeats 1000000 in
theorem ixdrop_any (w : World) (q : Nat) (F : Foot) (st : IxSt) (hR : IxRep w q F st) (hl : st.length ≤ 4096) (k : ByteArray) (hk : k.size ≤ 4096) :
    Calls Try.prog 13 #[.pointer (some ⟨q, 0, none⟩), .string k] w fun e w' => e = .returned (.bool (ixGet st k).isSome) ∧ ∃ F' : Foot, IxRep w' q F' (ixDrop st k) ∧ Step F F' w w' := by
  obtain ⟨A, n, T, rfl, hR⟩ := hR
  have hn := hR.n
  have hn1 : n ≤ 1099511627776 := by omega
  obtain ⟨w1, hw1⟩ : ∃ w1, w.alloc (.cells #[.string k] 9) = w1 := ⟨_, rfl⟩
  have hk1 : Kp w w1 := by rw [← hw1]; exact (Keeps.refl _ w).alloc _
  have hR1 := hR.keep (hk1.mono fun _ _ _ => trivial)
  have hc : w1.cell? ⟨w.heap.size, 0, none⟩ = some (.string k) := by rw [← hw1]; exact (cell_of_block (heap_alloc_new w _) 0).trans rfl
  have HH := Lib.hid (hash_any k w.heap.size w1 hk hc)
  have HF := Lib.hid (find_s w1 q A n st.length T st hR1.s hR1.ok (fun h => (hR1.zero h).1) hn1 k)
  have HR := Lib.hid hR1
  have HW1 := Lib.hid hw1
  have HK1 := Lib.hid hk1
  clear hR hw1 hk1 hR1 hc
  generalize hX : hashN k = X at HH HF
  clear hX
  go_enter Try.func13, Try.ntmps13
  go_wp2_with fail
  rw [HW1.out]
  refine (show Calls _ _ _ _ _ from HH.out).mono ?_
  rintro e w2 ⟨rfl, hw2⟩
  have hw2 := hw2.symm
  subst hw2
  go_wp2_with fail
  refine (show Calls _ _ _ _ _ from HF.out).mono ?_
  rintro e w3 ⟨hw3, (⟨i, hi, hf, hkey, rfl⟩ | ⟨hno, rfl⟩)⟩
  · have hw3 := hw3.symm
    subst hw3
    obtain ⟨g, rfl, hA⟩ := HR.out.g (by omega)
    have hg := get_val HR.out hi hf hkey
    have HV := Lib.hid hg
    have hdl := ixDrop_len HR.out.nd hg
    obtain ⟨c, hc⟩ : ∃ c, (ixDrop st k).length = c := ⟨_, rfl⟩
    rw [hc] at hdl
    have HE := Lib.hid (empty_any w1 q g n c T st (by rw [hdl]; exact hA) (HR.out.ok (by omega)) hn1 (by omega) i hi hf)
    rw [hkey] at HE
    have HC := Lib.hid hc
    clear hA hf hkey hg hc
    go_wp2_with fail
    refine (show Calls _ _ _ _ _ from HE.out).mono ?_
    rintro e w4 ⟨rfl, T4, hA4, hT4, hk4⟩
    have HFIT := Lib.hid (fit_any w4 q (some ⟨g, 0, none⟩) n c T4 (ixDrop st k) hA4.s (fun _ => hT4) (fun h => by omega) HC.out.symm (ixDrop_i64 HR.out.i) hn1 (by omega))
    have HK4 := Lib.hid hk4
    clear hA4 hT4 hk4 HE
    go_wp2_with fail
    refine (show Calls _ _ _ _ _ from HFIT.out).mono ?_
    rintro e w5 ⟨rfl, g5, n5, T5, hA5, hT5, h1, h2, h3, hk5⟩
    have HS := Lib.hid (show IxRepAt w5 q (some ⟨g5, 0, none⟩) n5 T5 (ixDrop st k) from
      ⟨⟨by rw [HC.out]; exact hA5.blk, fun _ => ⟨g5, rfl, hA5.tab, hA5.ne⟩⟩, fun _ => hT5, fun h0 => by omega, ixDrop_i64 HR.out.i, by rw [HC.out]; omega⟩)
    have HSTEP := Lib.hid (show Step (ixFoot q (some ⟨g, 0, none⟩)) (ixFoot q (some ⟨g5, 0, none⟩)) w w5 from by
      refine step_of ?_ fun g' hg' => ?_
      · have k14 : Keeps (Off q g) w w4 := (HK1.out.mono fun _ _ _ => trivial).trans HK4.out
        have k15 : Keeps (Off q g) w w5 := k14.trans (hk5.mono fun _ _ h => h.1)
        exact k15.mono fun b _ hb => ⟨fun e => hb (.inl e), fun e => hb (.inr (by rw [e]))⟩
      · injection hg' with hg'
        injection hg' with hg'
        subst hg'
        rcases h3 with h | h
        · exact .inl h
        · exact .inr (Nat.le_trans (Nat.le_trans HK1.out.size HK4.out.size) h))
    clear hA5 hT5 h3 hk5 HFIT
    go_wp2_with fail
    go_ret
    rw [HV.out]
    exact ⟨rfl, _, ⟨_, _, _, rfl, HS.out⟩, HSTEP.out⟩
  · have hw3 := hw3.symm
    subst hw3
    have HV := Lib.hid hno
    clear hno
    go_wp2_with fail
    go_ret
    have e : ixDrop st k = st := by
      unfold ixDrop
      rw [List.filter_eq_self]
      intro x hx
      rw [isK_not.2 (ixGet_none.1 HV.out x hx)]
      rfl
    rw [HV.out, e]
    exact ⟨rfl, _, ⟨_, _, _, rfl, HR.out⟩, step_of (HK1.out.mono fun _ _ _ => trivial) fun g' hg' => .inl hg'⟩

set_option maxRecDepth 100000 in
set_option maxHeartbeats 1000000 in
theorem ixbelow_any (w : World) (q : Nat) (F : Foot) (st : IxSt) (hR : IxRep w q F st) (hl : st.length ≤ 4096) (p : Int) (hp : i64 p) :
    Calls Try.prog 14 #[.pointer (some ⟨q, 0, none⟩), .int .i64 p] w fun e w' => e = .returned (.int .i64 ((st.length - (ixBelow st p).length : Nat) : Int)) ∧ ∃ F' : Foot, IxRep w' q F' (ixBelow st p) ∧ Step F F' w w' := by
  obtain ⟨A, n, T, rfl, hR⟩ := hR
  have hn := hR.n
  have hq := hR.s.blk.lt
  have HFR := Lib.hid (from_any w q A n st.length T hR.s (by omega) p)
  have hall : (∀ s ∈ fromL T p n, s.full = true ∧ s.hash = (hashN s.key : Int)) ∧ (((fromL T p n).map kv).map (·.1)).Nodup ∧ ((fromL T p n).map kv).Perm (ixBelow st p) := by
    rcases Nat.eq_zero_or_pos n with h0 | h0
    · subst h0
      rw [tab_nil, (hR.zero rfl).1]
      exact ⟨fun s hs => absurd hs (List.not_mem_nil), List.nodup_nil, List.Perm.refl _⟩
    · exact from_ok (hR.ok h0) p
  have hlen : (fromL T p n).length = (ixBelow st p).length := by
    have := hall.2.2.length_eq
    rwa [List.length_map] at this
  have hle := ixBelow_le st p
  have HLAY := Lib.hid (show ∀ (w1 : World) (B : Option Addr) (k : Nat), Kp w w1 → w1.ownsRow w.heap.size 58 4 (.slice B (fromL T p n).length k) (fromL T p n).length (slC (fromL T p n)) →
      Calls Try.prog 28 #[.pointer (some ⟨q, 0, none⟩), .slice B (fromL T p n).length k] w1 fun e w' => e = .returned (.tuple #[]) ∧ ∃ F' : Foot, IxRep w' q F' (ixBelow st p) ∧ Step (ixFoot q A) F' w w' from fun w1 B k hk ho => by
    refine (lay_any w1 q _ st.length (hR.s.blk.keep hk trivial) B k _ ((SlsAt.of_own ho rfl).mono fun b _ hb => ?_) (by omega) hall.1 hall.2.1).mono ?_
    · have := hb.1; omega
    · rintro e w' ⟨rfl, g', n', T', h1, h2, h3, h4, h5, h6⟩
      rw [hlen] at h1 h3 h4
      refine ⟨rfl, _, ⟨some ⟨g', 0, none⟩, n', T', rfl, ⟨⟨h1.blk, fun _ => ⟨g', rfl, h1.tab, h1.ne⟩⟩, fun _ => h2.of_perm hall.2.2, fun h0 => by omega, ixBelow_i64 hR.i, by omega⟩⟩, step_of ?_ fun g2 hg2 => ?_⟩
      · exact ((hk.mono fun _ _ _ => trivial).trans h6).mono fun b _ hb e => hb (.inl e)
      · injection hg2 with hg2
        injection hg2 with hg2
        subst hg2
        exact .inr (Nat.le_trans hk.size h5))
  have HSAME := Lib.hid (show (ixBelow st p).length = st.length → ∀ w1, Kp w w1 → ∃ F' : Foot, IxRep w1 q F' (ixBelow st p) ∧ Step (ixFoot q A) F' w w1 from fun h w1 hk => by
    rw [ixBelow_same h]
    exact ⟨_, ⟨A, n, T, rfl, hR.keep (hk.mono fun _ _ _ => trivial)⟩, step_of (hk.mono fun _ _ _ => trivial) fun g' hg' => .inl hg'⟩)
  have HBLK := Lib.hid hR.s.blk
  obtain ⟨m, hm⟩ : ∃ m, (ixBelow st p).length = m := ⟨_, rfl⟩
  obtain ⟨c, hc⟩ : ∃ c, st.length = c := ⟨_, rfl⟩
  rw [hlen] at HFR HLAY
  rw [hm] at HFR HLAY hle HSAME ⊢
  rw [hc] at hle hl HSAME HBLK ⊢
  have hcast : ((c - m : Nat) : Int) = (c : Int) - (m : Int) := by omega
  clear hR hall hlen hm hc hn
  go_enter Try.func14, Try.ntmps14
  go_wp2_with fail
  refine (show Calls _ _ _ _ _ from HFR.out).mono ?_
  rintro e w1 ⟨B, k, rfl, ho, hk⟩
  have c1 := (HBLK.out.keep hk trivial).c1
  have HK := Lib.hid hk
  have HO := Lib.hid ho
  clear hk ho
  by_cases hgt : m < c
  · have hd : decide ((0 : Int) < (c : Int) - (m : Int)) = true := by rw [decide_eq_true_eq]; omega
    go_wp2_with fail
    refine (show Calls _ _ _ _ _ from HLAY.out w1 B k HK.out HO.out).mono ?_
    rintro e w2 ⟨rfl, hfin⟩
    have HFIN := Lib.hid hfin
    clear hfin
    go_wp2_with fail
    go_ret
    rw [hcast]
    exact ⟨rfl, HFIN.out⟩
  · obtain rfl : m = c := by omega
    have hd : decide ((0 : Int) < (m : Int) - (m : Int)) = false := by rw [decide_eq_false_iff_not]; omega
    go_wp2_with fail
    go_ret
    rw [hcast]
    refine ⟨?_, HSAME.out trivial w1 HK.out⟩
    simp

section
variable (w : World) (k : ByteArray) (p : Int)
set_option maxRecDepth 100000
theorem ixput_nil : Calls Try.prog 12 #[.pointer none, .string k, .int .i64 p] w fun e w' => e = .returned (.int .i64 0) ∧ Keeps (fun _ => True) w w' := by
  go_enter Try.func12, Try.ntmps12
  go_wp2_with fail
  go_ret
  exact ⟨rfl, Keeps.refl _ _⟩
theorem ixget_nil : Calls Try.prog 15 #[.pointer none, .string k] w fun e w' => e = .returned (.tuple #[.int .i64 0, .bool false]) ∧ Keeps (fun _ => True) w w' := by
  go_enter Try.func15, Try.ntmps15
  go_wp2_with fail
  go_ret2
  exact ⟨rfl, Keeps.refl _ _⟩
theorem ixdrop_nil : Calls Try.prog 13 #[.pointer none, .string k] w fun e w' => e = .returned (.bool false) ∧ Keeps (fun _ => True) w w' := by
  go_enter Try.func13, Try.ntmps13
  go_wp2_with fail
  go_ret
  exact ⟨rfl, Keeps.refl _ _⟩
theorem ixlen_nil : Calls Try.prog 16 #[.pointer none] w fun e w' => e = .returned (.int .i64 0) ∧ Keeps (fun _ => True) w w' := by
  go_enter Try.func16, Try.ntmps16
  go_wp2_with fail
  go_ret
  exact ⟨rfl, Keeps.refl _ _⟩
theorem ixbelow_nil : Calls Try.prog 14 #[.pointer none, .int .i64 p] w fun e w' => e = .returned (.int .i64 0) ∧ Keeps (fun _ => True) w w' := by
  go_enter Try.func14, Try.ntmps14
  go_wp2_with fail
  go_ret
  exact ⟨rfl, Keeps.refl _ _⟩
theorem ixkeys_nil : Calls Try.prog 18 #[.pointer none] w fun e w' => ∃ (A : Option Addr) (c : Nat), e = .returned (.slice A 0 c) ∧ Keeps (fun _ => True) w w' := by
  go_enter Try.func18, Try.ntmps18
  go_wp2_with fail
  go_ret
  exact ⟨none, 0, rfl, Keeps.refl _ _⟩
end

end Go.Proofs.Ytilcmlioofkkmaa
